package check

import "gusset/api"

// A spot is a place of a module: the tree that stands there, and how many trees that is.
type spot struct {
	node *api.Node
	size int
}

// spotsOf are all places of a tree, and one behind them: what stands there is nothing, as a kid that a tree has not.
func spotsOf(n *api.Node) []spot {
	return append(appendSpots(nil, n), spot{&api.Node{Kind: api.None}, 1})
}

func appendSpots(l []spot, n *api.Node) []spot {
	at := len(l)
	l = append(l, spot{node: n})
	for i := range n.Kids {
		l = appendSpots(l, &n.Kids[i])
	}
	l[at].size = len(l) - at
	return l
}

func (m *module) node(at int) *api.Node {
	return m.spots[at].node
}

// end is the place behind all that stands at one.
func (m *module) end(at int) int {
	return at + m.spots[at].size
}

// kid is the place of a kid; the one behind all places, where a tree that is not whole has none.
func (m *module) kid(at, number int) int {
	kid := at + 1
	for ; number > 0 && kid < m.end(at); number-- {
		kid = m.end(kid)
	}
	if kid >= m.end(at) {
		return len(m.spots) - 1
	}
	return kid
}

// kids are the places of all kids.
func (m *module) kids(at int) []int {
	var places []int
	for kid := at + 1; kid < m.end(at); kid = m.end(kid) {
		places = append(places, kid)
	}
	return places
}

// isExpression tells whether the walk comes to what stands at a place as an expression.
func (m *module) isExpression(at int) bool {
	if at < 1 || at >= len(m.spots)-1 {
		return false
	}
	// These have one kid at most, so that it stands right behind them.
	switch m.node(at - 1).Kind {
	case api.ImportOne, api.ExportOne, api.SpaceOne:
		return false
	}
	switch kind := m.node(at).Kind; kind {
	case api.Prop, api.Params, api.Param, api.None:
		return false
	default:
		return kind >= api.Num && kind <= api.Index
	}
}

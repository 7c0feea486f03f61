package shake

import (
	"gusset/api"
	"gusset/exports"
	"gusset/link"
	"gusset/order"
	"gusset/pure"
)

// A top is a name that a module declares.
type top struct {
	mod  int
	name string
}

// A shaker finds the items and namespaces that a bundle needs; either is told by its Origin.
type shaker struct {
	linked    api.Linked
	evaluated []int       // the modules that are, in their order
	items     map[top]int // those that declare the tops
}

func newShaker(l api.Linked) *shaker {
	s := &shaker{linked: l, evaluated: order.Order(order.Edges(l.Graph, false), 0), items: map[top]int{}}
	for mod, scope := range l.Scopes {
		for _, t := range scope.Tops {
			s.items[top{mod, t.Name}] = t.Item
		}
	}
	return s
}

func (s *shaker) itemsOf(mod int) []api.Node {
	return s.linked.Graph.Mods[mod].Tree.Kids
}

// roots marks what is needed whatever else is: the roots, and the namespaces that the entry exports. (What is not pure has an image, if it is whole.)
func (s *shaker) roots() marks {
	m := newMarks(s.linked.Graph.Mods)
	for _, mod := range s.evaluated {
		for item, n := range s.itemsOf(mod) {
			if !pure.Item(n) {
				m.mark(api.Origin{Mod: mod, Item: item})
			}
		}
	}
	for _, o := range s.exported(0) {
		m.mark(o)
	}
	return m
}

// needed marks all that is needed. It keeps its marks in a copy: the roots are still gone over while it marks, and what it finds on the way is followed there and then.
func (s *shaker) needed() marks {
	roots := s.roots()
	needed := roots.copied()
	for o := range roots.all() {
		s.follow(o, needed)
	}
	return needed
}

// follow marks all that is needed for one thing, as far as it was not. What is left to follow stands in a list: items may need one another over more than calls can be nested.
func (s *shaker) follow(from api.Origin, needed marks) {
	left := []api.Origin{from}
	for len(left) > 0 {
		next := left[len(left)-1]
		left = left[:len(left)-1]
		for _, o := range s.needs(next) {
			if needed.mark(o) {
				left = append(left, o)
			}
		}
	}
}

// needs are what an item mentions, or what a namespace has.
func (s *shaker) needs(o api.Origin) []api.Origin {
	if o.Item == space {
		return s.exported(o.Mod)
	}
	// The namespaces among the mentions are what pure.Values tells.
	return s.origins(pure.Mentions(s.linked, o.Mod, o.Item))
}

// exported is what the names that a module exports lead to as values.
func (s *shaker) exported(mod int) []api.Origin {
	var values []api.Found
	for _, name := range exports.Names(s.linked.Entries, mod) {
		if f := exports.Resolve(s.linked.Entries, mod, name); link.Value(s.linked, f) {
			values = append(values, f)
		}
	}
	return s.origins(values)
}

// origins are the items that declare what was found, and the namespaces among that.
func (s *shaker) origins(founds []api.Found) []api.Origin {
	var l []api.Origin
	for _, f := range founds {
		if f.Kind == api.FoundSpace {
			l = append(l, api.Origin{Mod: f.Mod, Item: space})
		} else if item, has := s.items[top{f.Mod, f.Name}]; has {
			l = append(l, api.Origin{Mod: f.Mod, Item: item})
		}
	}
	return l
}

// listed are the items that are marked and have an image, in the order of evaluation.
func (s *shaker) listed(m marks) []api.Origin {
	var l []api.Origin
	for _, mod := range s.evaluated {
		for item, n := range s.itemsOf(mod) {
			if m[mod][item+1] && hasImage(n) {
				l = append(l, api.Origin{Mod: mod, Item: item})
			}
		}
	}
	return l
}

// hasImage tells whether anything of an item stands in a bundle.
func hasImage(n api.Node) bool {
	if n.Kind == api.Export && len(n.Kids) == 1 {
		n = n.Kids[0]
	}
	return n.Kind != api.Import && n.Kind != api.ExportFrom && n.Kind != api.Alias
}

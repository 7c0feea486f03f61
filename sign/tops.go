package sign

import (
	"slices"

	"gusset/api"
)

// A binding is a top of a module.
type binding struct {
	mod  int
	name string
}

// newReader knows the numbers of all classes and the trees of all aliases, and asks for the rest.
func newReader(l api.Linked) *reader {
	r := &reader{linked: l, known: map[binding]api.Type{}, trees: map[binding]api.Node{}, asked: map[binding]struct{}{}}
	classes := 0
	for mod, m := range l.Graph.Mods {
		for _, item := range m.Tree.Kids {
			n := held(item)
			b := binding{mod, n.Text}
			switch n.Kind {
			case api.Class:
				r.known[b] = api.Type{Kind: api.TypeClass, N: classes}
				classes++
			case api.Alias:
				r.trees[b] = kid(n, 0)
			}
		}
	}
	return r
}

// readerOf leans on what Sign answered, so that one type is told without going over all modules. Where Sign answered an error, that is nothing.
func readerOf(l api.Linked, s api.Signs) *reader {
	if len(s.Tops) != len(l.Graph.Mods) {
		return newReader(l)
	}
	return &reader{linked: l, earlier: s}
}

// find is what a class or alias declares, if it is known.
func (r *reader) find(b binding) (api.Type, bool) {
	if t, ok := r.known[b]; ok {
		return t, true
	}
	t, ok := signed(r.earlier, b)
	return t, ok && isTypeTop(r.linked, b)
}

// signed is what Sign answered of a top.
func signed(s api.Signs, b binding) (api.Type, bool) {
	if b.mod < 0 || b.mod >= len(s.Tops) {
		return api.Type{}, false
	}
	slots := s.Tops[b.mod]
	at, ok := slices.BinarySearchFunc(slots, api.Slot{Name: b.name}, compareNames)
	if !ok {
		return api.Type{}, false
	}
	return slots[at].Type, true
}

// isTypeTop tells a class or alias from a let or function that has a type.
func isTypeTop(l api.Linked, b binding) bool {
	if b.mod >= len(l.Scopes) {
		return false
	}
	return slices.ContainsFunc(l.Scopes[b.mod].Tops, func(top api.Top) bool {
		return top.Name == b.name && (top.Kind == api.Class || top.Kind == api.Alias)
	})
}

// basic is the kind of a type that each module has by a name; 0, if there is none.
func basic(name string) int {
	switch name {
	case "any":
		return api.TypeAny
	case "number":
		return api.TypeNumber
	case "string":
		return api.TypeString
	case "boolean":
		return api.TypeBoolean
	case "null":
		return api.TypeNull
	case "undefined":
		return api.TypeUndef
	}
	return 0
}

// held is what an Export or Default holds; another item is what it is.
func held(item api.Node) api.Node {
	if item.Kind == api.Export || item.Kind == api.Default {
		return kid(item, 0)
	}
	return item
}

// kid is a kid of a tree; a zero one, where a tree that is not whole has none.
func kid(n api.Node, i int) api.Node {
	if i >= len(n.Kids) {
		return api.Node{}
	}
	return n.Kids[i]
}

func firstKids(l []api.Node) []api.Node {
	var kids []api.Node
	for _, n := range l {
		kids = append(kids, kid(n, 0))
	}
	return kids
}

// paramTypes are the types of what a tree's first kid has as Params, each a type or None.
func paramTypes(n api.Node) []api.Node {
	return firstKids(kid(n, 0).Kids)
}

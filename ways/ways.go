// Package ways goes over the value uses of an item for the layers that ask what each of them says (19 and 21).
package ways

import (
	"cmp"
	"slices"

	"gusset/api"
	"gusset/exports"
	"gusset/link"
)

// Item is where an item stands in its module; nil, if l has no such item. It is the caller's: to be read alone.
func Item(l api.Linked, mod, item int) *api.Node {
	if mod < 0 || mod >= len(l.Graph.Mods) {
		return nil
	}
	items := l.Graph.Mods[mod].Tree.Kids
	if item < 0 || item >= len(items) {
		return nil
	}
	return &items[item]
}

// A Say takes a tree that says something, and what it says. It may put another tree in its place: all that stands within has been gone over by then.
type Say func(n *api.Node, says api.Found)

// Each goes over n, that item of l or a copy of it, and hands on each longest way, and each other value use of a top or import.
func Each(l api.Linked, mod, item int, n *api.Node, say Say) {
	r := &reader{linked: l, mod: mod, say: say, led: map[export]api.Found{}}
	if mod < len(l.Scopes) {
		r.uses = l.Scopes[mod].Uses
	}
	r.at = placeOf(l.Graph.Mods[mod].Tree.Kids, item)
	// An item is no expression: it says nothing itself.
	r.read(n)
}

// placeOf is the place of an item in its module.
func placeOf(items []api.Node, item int) int {
	at := 1
	for i := range item {
		at += size(&items[i])
	}
	return at
}

// size is tree.Size without its walk, which takes far longer where many items are small: each is counted anew for each one behind it.
func size(n *api.Node) int {
	all := 1
	for i := range n.Kids {
		all += size(&n.Kids[i])
	}
	return all
}

// An export is a name under which a module may give something.
type export struct {
	mod  int
	name string
}

// A reader goes over an item.
type reader struct {
	linked api.Linked
	mod    int
	uses   []api.Use // the module's
	at     int       // the place of the tree that is read next
	say    Say
	led    map[export]api.Found // the values that exports lead to, as far as they were asked for
}

// read goes over a tree, and answers what it says itself, if it is a Name or a way: what stands around it may be a longer way. All else that is said within is handed on.
func (r *reader) read(n *api.Node) api.Found {
	at := r.at
	r.at++
	if n.Kind == api.Member && len(n.Kids) == 1 {
		return r.member(n)
	}
	for i := range n.Kids {
		k := &n.Kids[i]
		r.hand(k, r.read(k))
	}
	switch n.Kind {
	case api.Name:
		return r.said(at)
	case api.New:
		// No way begins at a New.
		r.hand(n, r.said(at))
	}
	// Other uses are those of types and of ExportOnes: no value uses.
	return api.Found{}
}

// said is what the use at a place says; FoundNone, if there is none, or one of a builtin or of what is local.
func (r *reader) said(at int) api.Found {
	i, is := slices.BinarySearchFunc(r.uses, at, func(u api.Use, at int) int { return cmp.Compare(u.At, at) })
	if !is {
		return api.Found{}
	}
	return link.Target(r.linked, r.mod, r.uses[i])
}

// member is what a Member says, if it makes the way that it is of a longer one; else that way ends here.
func (r *reader) member(n *api.Node) api.Found {
	way := &n.Kids[0]
	of := r.read(way)
	if of.Kind == api.FoundSpace {
		if f := r.value(export{of.Mod, n.Text}); f.Kind != api.FoundNone {
			return f
		}
	}
	r.hand(way, of)
	return api.Found{}
}

// value is what an export leads to; FoundNone, if that is no value. It keeps what it was told: a namespace may be asked for one name again and again.
func (r *reader) value(e export) api.Found {
	f, asked := r.led[e]
	if asked {
		return f
	}
	f = exports.Resolve(r.linked.Entries, e.mod, e.name)
	if !link.Value(r.linked, f) {
		f = api.Found{}
	}
	r.led[e] = f
	return f
}

func (r *reader) hand(n *api.Node, says api.Found) {
	if says.Kind != api.FoundNone {
		r.say(n, says)
	}
}

package pure

import (
	"cmp"
	"slices"
	"strings"

	"gusset/api"
	"gusset/exports"
	"gusset/link"
)

// placeOf is the place of an item in its module.
func placeOf(items []api.Node, item int) int {
	at := 1
	for i := range item {
		at += size(&items[i])
	}
	return at
}

// size is tree.Size without its walk, which takes far longer where many items are small: each is counted anew for each one behind it.
func size(n *api.Node) int {
	all := 1
	for i := range n.Kids {
		all += size(&n.Kids[i])
	}
	return all
}

// An export is a name under which a module may give something.
type export struct {
	mod  int
	name string
}

// A reader goes over an item, and gathers what its value uses say.
type reader struct {
	linked api.Linked
	mod    int
	at     int                  // the place of the tree that is read next
	led    map[export]api.Found // the values that exports lead to, as far as they were asked for
	told   []api.Found
}

// read goes over a tree, and hands on what it says itself, if it is a Name or a way: what stands around it may be a longer way. All else that is said within is told.
func (r *reader) read(n *api.Node) api.Found {
	at := r.at
	r.at++
	if n.Kind == api.Member && len(n.Kids) == 1 {
		return r.member(r.read(&n.Kids[0]), n.Text)
	}
	for i := range n.Kids {
		r.tell(r.read(&n.Kids[i]))
	}
	switch n.Kind {
	case api.Name:
		return r.said(at)
	case api.New:
		// No way begins at a New.
		r.tell(r.said(at))
	}
	// Other uses are those of types and of ExportOnes: no value uses.
	return api.Found{}
}

// said is what the use at a place says; FoundNone, if there is none, or one of a builtin or of what is local.
func (r *reader) said(at int) api.Found {
	uses := r.linked.Scopes[r.mod].Uses
	i, is := slices.BinarySearchFunc(uses, at, func(u api.Use, at int) int { return cmp.Compare(u.At, at) })
	if !is {
		return api.Found{}
	}
	return link.Target(r.linked, r.mod, uses[i])
}

// member is what a Member says, if it makes the way that it is of a longer one; else that way ends here.
func (r *reader) member(of api.Found, name string) api.Found {
	if of.Kind == api.FoundSpace {
		if f := r.value(export{of.Mod, name}); f.Kind != api.FoundNone {
			return f
		}
	}
	r.tell(of)
	return api.Found{}
}

// value is what an export leads to; FoundNone, if that is no value. It keeps what it was told: a namespace may be asked for one name again and again.
func (r *reader) value(e export) api.Found {
	f, asked := r.led[e]
	if asked {
		return f
	}
	f = exports.Resolve(r.linked.Entries, e.mod, e.name)
	if !link.Value(r.linked, f) {
		f = api.Found{}
	}
	r.led[e] = f
	return f
}

func (r *reader) tell(f api.Found) {
	if f.Kind != api.FoundNone {
		r.told = append(r.told, api.Found{Kind: f.Kind, Mod: f.Mod, Name: f.Name})
	}
}

// inOrder are all that were told, each once.
func inOrder(told []api.Found) []api.Found {
	slices.SortFunc(told, func(a, b api.Found) int {
		return cmp.Or(cmp.Compare(a.Kind, b.Kind), cmp.Compare(a.Mod, b.Mod), strings.Compare(a.Name, b.Name))
	})
	return slices.Compact(told)
}

package hoist

import (
	"fmt"
	"slices"
	"testing"

	"gusset/api"
	"gusset/exports"
	"gusset/link"
	"gusset/scope"
	"gusset/show"
	"gusset/tree"
)

// A saying is what a use says: a top of a bundle, a builtin, or the number of a local declaration within the item.
type saying struct {
	kind  int
	name  string
	local int
}

// A spot is a tree of a module or script, and the place of the tree around it (-1 of the whole).
type spot struct {
	node   api.Node
	around int
}

func spotsOf(whole api.Node) []spot {
	var l []spot
	var walk func(n api.Node, around int)
	walk = func(n api.Node, around int) {
		at := len(l)
		l = append(l, spot{n, around})
		for _, k := range n.Kids {
			walk(k, at)
		}
	}
	walk(whole, -1)
	return l
}

// span is the place of an item, and the place behind it.
func span(whole api.Node, item int) (int, int) {
	at := 1
	for _, n := range whole.Kids[:item] {
		at += tree.Size(n)
	}
	return at, at + tree.Size(whole.Kids[item])
}

// locals are the places of all that is declared within the item, but for its own top and what types are made of.
func locals(spots []spot, at, end int) []int {
	var l []int
	for i := at; i < end; i++ {
		switch spots[i].node.Kind {
		case api.Let, api.Function:
			around := spots[spots[i].around].node.Kind
			if around == api.Block {
				l = append(l, i)
			}
		case api.Param:
			if spots[spots[spots[i].around].around].node.Kind != api.TypeFunc {
				l = append(l, i)
			}
		}
	}
	return l
}

// sayings are those of all value uses of an item; name tells what one that is neither local nor built in says.
func sayings(whole api.Node, s api.Scope, item int, name func(spots []spot, u api.Use) string) []saying {
	spots := spotsOf(whole)
	at, end := span(whole, item)
	places := locals(spots, at, end)
	var l []saying
	for _, u := range s.Uses {
		switch {
		case u.At < at || u.At >= end || u.Type:
		case u.Kind == api.UseBuiltin:
			l = append(l, saying{u.Kind, u.Name, 0})
		case u.Kind == api.UseLocal:
			l = append(l, saying{u.Kind, u.Name, slices.Index(places, u.Decl)})
		default:
			l = append(l, saying{api.UseTop, name(spots, u), 0})
		}
	}
	return l
}

// called is what something that was found is called in a bundle.
func called(f api.Found) string {
	if f.Kind == api.FoundSpace {
		return fmt.Sprintf("$%d", f.Mod)
	}
	return fmt.Sprintf("%s$%d", f.Name, f.Mod)
}

// says is what the longest way from a use outwards says.
func says(l api.Linked, mod int, spots []spot, u api.Use) string {
	f, at := link.Target(l, mod, u), u.At
	for spots[at].node.Kind != api.New && f.Kind == api.FoundSpace {
		at = spots[at].around
		there := exports.Resolve(l.Entries, f.Mod, spots[at].node.Text)
		if spots[at].node.Kind != api.Member || !link.Value(l, there) {
			break
		}
		f = there
	}
	return called(f)
}

// T7: each use of an image says in the bundle what it said in its module, and each name of a namespace what the module gives under it.
func TestSayings(t *testing.T) {
	t.Parallel()
	met := map[int]int{}
	for _, made := range made(t, 1200) {
		if !made.typed {
			continue
		}
		l := made.linked
		script, origins := Bundle(l)
		s, _, err := scope.Resolve(script)
		if err != api.OK {
			t.Fatal(err)
		}
		for i, o := range origins {
			got := sayings(script, s, i, func(_ []spot, u api.Use) string { return u.Name })
			var want []saying
			if o.Item < 0 {
				want = valuesOf(l, o.Mod)
			} else {
				want = sayings(l.Graph.Mods[o.Mod].Tree, l.Scopes[o.Mod], o.Item, func(spots []spot, u api.Use) string { return says(l, o.Mod, spots, u) })
			}
			if !slices.Equal(got, want) {
				t.Fatalf("%q: of %v the uses say %v, want %v:\n%s", made.sources, o, got, want, show.Show(script))
			}
			for _, one := range want {
				if met[one.kind]++; one.local < 0 {
					t.Fatal(want)
				}
			}
		}
	}
	if met[api.UseTop] < 10000 || met[api.UseLocal] < 2000 || met[api.UseBuiltin] < 2000 {
		t.Error(met)
	}
}

// valuesOf are the values that a module gives, by rising names.
func valuesOf(l api.Linked, mod int) []saying {
	var all []saying
	for _, name := range exports.Names(l.Entries, mod) {
		if f := exports.Resolve(l.Entries, mod, name); link.Value(l, f) {
			all = append(all, saying{api.UseTop, called(f), 0})
		}
	}
	return all
}

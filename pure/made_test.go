package pure

import (
	"cmp"
	"fmt"
	"slices"
	"testing"

	"gusset/api"
	"gusset/exports"
	"gusset/link"
	"gusset/tree"
)

// made are the modules of a seed.
func made(t *testing.T, seed int64) ([]string, api.Linked) {
	t.Helper()
	sources := madeSources(seed)
	return sources, linked(t, sources...)
}

// A spot is a tree of a module, the place of the tree around it (-1 of the whole), and the item in which it stands (-1 of none).
type spot struct {
	node         api.Node
	around, item int
}

func spotsOf(module api.Node) []spot {
	var l []spot
	var walk func(n api.Node, around, item int)
	walk = func(n api.Node, around, item int) {
		at := len(l)
		l = append(l, spot{n, around, item})
		for i, k := range n.Kids {
			if at == 0 {
				item = i
			}
			walk(k, at, item)
		}
	}
	walk(module, -1, -1)
	return l
}

// byWords is 19.3 word for word: from each use outwards.
func byWords(l api.Linked, mod int, met map[string]int) [][]api.Found {
	spots := spotsOf(l.Graph.Mods[mod].Tree)
	all := make([][]api.Found, len(l.Graph.Mods[mod].Tree.Kids))
	for _, u := range l.Scopes[mod].Uses {
		here := spots[u.At]
		if u.Type || here.node.Kind == api.ExportOne || u.Kind != api.UseTop && u.Kind != api.UseImport {
			met[fmt.Sprint("no value use of the kind ", here.node.Kind)]++
			continue
		}
		f := link.Target(l, mod, u)
		long := 0
		for at := u.At; here.node.Kind == api.Name && f.Kind == api.FoundSpace; long++ {
			at = spots[at].around
			if spots[at].node.Kind != api.Member {
				break
			}
			there := exports.Resolve(l.Entries, f.Mod, spots[at].node.Text)
			if !link.Value(l, there) {
				met[fmt.Sprint("ends at ", there.Kind, there.Type)]++
				break
			}
			f = there
		}
		met[fmt.Sprint("long ", min(long, 4), " ", f.Kind)]++
		met[fmt.Sprint("use ", u.Kind, " ", here.node.Kind)]++
		f = api.Found{Kind: f.Kind, Mod: f.Mod, Name: f.Name}
		if !slices.Contains(all[here.item], f) {
			all[here.item] = append(all[here.item], f)
		}
	}
	for _, one := range all {
		slices.SortFunc(one, func(a, b api.Found) int {
			if a.Kind != b.Kind {
				return a.Kind - b.Kind
			}
			if a.Mod != b.Mod {
				return a.Mod - b.Mod
			}
			return cmp.Compare(a.Name, b.Name)
		})
	}
	return all
}

// 19.2, 19.3: modules that are made by chance, each item of them.
func TestMade(t *testing.T) {
	t.Parallel()
	met := map[string]int{}
	for seed := range int64(3000) {
		sources, l := made(t, seed)
		for mod := range l.Graph.Mods {
			all := byWords(l, mod, met)
			for item, want := range all {
				got := Mentions(l, mod, item)
				if !slices.Equal(got, want) {
					t.Fatalf("seed %d: %q: the item %d of %d: %s, want %s", seed, sources, item, mod, told(got), told(want))
				}
				var spaces []int
				for _, f := range want {
					if f.Kind == api.FoundSpace {
						spaces = append(spaces, f.Mod)
					}
				}
				if got := Values(l, mod, item); !slices.Equal(got, spaces) || !slices.IsSorted(got) {
					t.Fatalf("seed %d: %q: the item %d of %d: the namespaces %v, want %v", seed, sources, item, mod, got, spaces)
				}
				met[fmt.Sprint("mentions ", min(len(want), 4))]++
				met[fmt.Sprint("namespaces ", min(len(spaces), 2))]++
			}
			if got := Mentions(l, mod, len(all)); len(got) > 0 {
				t.Fatalf("%q: %v behind all items", sources, got)
			}
		}
	}
	for what, often := range map[string]int{
		"long 1 1": 500, "long 1 2": 500, "long 2 1": 500, "long 2 2": 500, "long 3 1": 200, "long 4 1": 40, "long 4 2": 40, "long 0 1": 500,
		"ends at 0 false": 500, "ends at 1 false": 500, "ends at 1 true": 500, "ends at 3 false": 100, "ends at 4 false": 500,
		"use 3 6": 500, "use 4 6": 500, "use 3 20": 200, "use 4 20": 200,
		"no value use of the kind 6": 500, "no value use of the kind 20": 200, "no value use of the kind 30": 500, "no value use of the kind 65": 500,
		"mentions 0": 500, "mentions 1": 500, "mentions 4": 500, "namespaces 0": 500, "namespaces 1": 500, "namespaces 2": 500,
	} {
		if met[what] < often {
			t.Errorf("%s: %d times", what, met[what])
		}
	}
	if t.Failed() {
		t.Log(met)
	}
}

// 19.3: what items that do nothing but import, export names or declare types mention is nothing; and each mention is a value.
func TestMadeKinds(t *testing.T) {
	t.Parallel()
	for seed := range int64(500) {
		sources, l := made(t, seed)
		for mod, m := range l.Graph.Mods {
			for item, n := range m.Tree.Kids {
				got := Mentions(l, mod, item)
				switch n.Kind {
				case api.Import, api.ExportFrom, api.Alias:
					if len(got) > 0 {
						t.Fatalf("%q: the item %d of %d mentions %s", sources, item, mod, told(got))
					}
				}
				for _, f := range got {
					if !link.Value(l, f) || f.Type {
						t.Fatalf("%q: the item %d of %d mentions %s", sources, item, mod, told(got))
					}
				}
			}
		}
	}
}

// 19.1: the items and expressions of these modules.
func TestMadeItems(t *testing.T) {
	t.Parallel()
	var met [2]int
	for seed := range int64(150) {
		_, l := made(t, seed)
		for _, m := range l.Graph.Mods {
			for _, n := range m.Tree.Kids {
				if got := Item(n); got != pureByWords(n) {
					t.Fatalf("%v: %t", n, got)
				} else if got {
					met[1]++
				} else {
					met[0]++
				}
				for _, part := range tree.All(n) {
					if got := Expr(part); got != (tree.Form(part) == api.FormExpr && pureByWords(part)) {
						t.Fatalf("%v: %t", part, got)
					}
				}
			}
		}
	}
	if met[0] < 100 || met[1] < 100 {
		t.Error(met)
	}
}

package shake

import (
	"fmt"
	"math/rand"
	"slices"
	"testing"

	"gusset/api"
	"gusset/exports"
	"gusset/link"
	"gusset/pure"
	"gusset/vfs"
)

// isPart tells whether a list has all of another one, in its order.
func isPart(part, whole []api.Origin) bool {
	for _, o := range whole {
		if len(part) > 0 && part[0] == o {
			part = part[1:]
		}
	}
	return len(part) == 0
}

// 20.3: Keep has Roots; what a kept item mentions is kept, and what a namespace gives that is needed; all else that is kept is a root.
func TestKeepFollows(t *testing.T) {
	t.Parallel()
	mentioned := 0
	for _, made := range made(t, 1500) {
		l := made.linked
		roots, keep, spaces := Roots(l), Keep(l), Spaces(l)
		if !isPart(roots, keep) {
			t.Fatalf("%q: the roots %s, but kept are %s", made.sources, told(roots), told(keep))
		}
		m := model{l: l}
		said := slices.Clone(roots)
		saidSpaces := []int{}
		note := func(founds []api.Found) {
			for _, f := range founds {
				if f.Kind == api.FoundSpace {
					saidSpaces = append(saidSpaces, f.Mod)
				} else {
					said = append(said, m.declaring(f))
				}
			}
		}
		for _, o := range keep {
			note(pure.Mentions(l, o.Mod, o.Item))
		}
		for _, mod := range spaces {
			note(m.given(mod))
		}
		note(m.given(0))
		for _, o := range keep {
			if !slices.Contains(said, o) {
				t.Fatalf("%q: kept is %v, that nobody mentions", made.sources, o)
			}
		}
		for _, o := range said {
			if !slices.Contains(keep, o) {
				t.Fatalf("%q: %v is mentioned, but kept are %s", made.sources, o, told(keep))
			}
		}
		slices.Sort(saidSpaces)
		if want := slices.Compact(saidSpaces); !slices.Equal(spaces, want) {
			t.Fatalf("%q: the namespaces %v, want %v", made.sources, spaces, want)
		}
		mentioned += len(keep) - len(roots)
	}
	if mentioned < 1000 {
		t.Error(mentioned)
	}
}

// usesSpaces tells whether any item uses a namespace as a value, or the entry exports one.
func usesSpaces(l api.Linked) bool {
	for mod, m := range l.Graph.Mods {
		for item := range m.Tree.Kids {
			if len(pure.Values(l, mod, item)) > 0 {
				return true
			}
		}
	}
	return slices.ContainsFunc(exports.Names(l.Entries, 0), func(name string) bool {
		return exports.Resolve(l.Entries, 0, name).Kind == api.FoundSpace
	})
}

// 20.3: where nobody uses a namespace as a value and the entry exports none, Spaces is empty.
func TestNoSpaces(t *testing.T) {
	t.Parallel()
	without := 0
	for _, made := range made(t, 1500) {
		if usesSpaces(made.linked) {
			continue
		}
		without++
		if got := Spaces(made.linked); len(got) > 0 {
			t.Fatalf("%q: the namespaces %v", made.sources, got)
		}
	}
	if without < 100 {
		t.Error(without)
	}
}

// 20.3, T4: Keep hangs on no order of files, on none that were removed, and on none that nobody asks for.
func TestOrderOfFiles(t *testing.T) {
	t.Parallel()
	for seed, made := range made(t, 1000) {
		rng := rand.New(rand.NewSource(int64(seed)))
		files := vfs.New()
		for i := range 5 {
			files.Write(fmt.Sprintf("/x%d.ts", i), "import './a'; print(1);")
			files.Write(fmt.Sprintf("/%c.ts", 'a'+i), "print(2);")
			files.Write(fmt.Sprintf("/%c/index.ts", 'a'+i), "print(3);")
		}
		for i := range 5 {
			files.Remove(fmt.Sprintf("/%c.ts", 'a'+i))
		}
		for _, i := range rng.Perm(len(made.sources)) {
			files.Write(fmt.Sprintf("/%c.ts", 'a'+i), made.sources[i])
		}
		l := relinked(t, files)
		same(t, made, l, func(mod int) int { return mod })
	}
}

// same holds what is answered of modules that are numbered anew against what is answered of those as they were.
func same(t *testing.T, was making, l api.Linked, number func(int) int) {
	t.Helper()
	numbered := func(l []api.Origin) []api.Origin {
		var out []api.Origin
		for _, o := range l {
			out = append(out, api.Origin{Mod: number(o.Mod), Item: o.Item})
		}
		return out
	}
	if got, want := Roots(l), numbered(Roots(was.linked)); !slices.Equal(got, want) {
		t.Fatalf("%q: the roots %s, want %s", was.sources, told(got), told(want))
	}
	if got, want := Keep(l), numbered(Keep(was.linked)); !slices.Equal(got, want) {
		t.Fatalf("%q: kept %s, want %s", was.sources, told(got), told(want))
	}
	var spaces []int
	for _, mod := range Spaces(was.linked) {
		spaces = append(spaces, number(mod))
	}
	slices.Sort(spaces)
	if got := Spaces(l); !slices.Equal(got, spaces) {
		t.Fatalf("%q: the namespaces %v, want %v", was.sources, got, spaces)
	}
}

// 20.3: nor does it hang on the modules' numbers, but that the entry is the first one.
func TestNumbersOfModules(t *testing.T) {
	t.Parallel()
	moved := 0
	for seed, made := range made(t, 1500) {
		old := made.linked.Graph.Mods
		numbers := []int{0}
		for _, n := range rand.New(rand.NewSource(int64(seed))).Perm(len(old) - 1) {
			numbers = append(numbers, n+1)
		}
		g := api.Graph{Mods: make([]api.Mod, len(old))}
		for mod, m := range old {
			m.Requests = slices.Clone(m.Requests)
			for i := range m.Requests {
				m.Requests[i].Target = numbers[m.Requests[i].Target]
			}
			g.Mods[numbers[mod]] = m
		}
		l, _, _, err := link.Link(g)
		if err != api.OK {
			t.Fatalf("%q: the error %d", made.sources, err)
		}
		same(t, made, l, func(mod int) int { return numbers[mod] })
		if !slices.IsSorted(numbers) && len(Spaces(l)) > 0 {
			moved++
		}
	}
	if moved < 200 {
		t.Error(moved)
	}
}

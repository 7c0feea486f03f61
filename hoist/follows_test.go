package hoist

import (
	"fmt"
	"math/rand"
	"slices"
	"strings"
	"testing"

	"gusset/api"
	"gusset/exports"
	"gusset/graph"
	"gusset/link"
	"gusset/module"
	"gusset/pure"
	"gusset/rename"
	"gusset/scope"
	"gusset/shake"
	"gusset/show"
	"gusset/tree"
	"gusset/vfs"
)

// 22.2, 22.3: first the namespaces that are needed, then the images of what is kept, each with its origin.
func TestItems(t *testing.T) {
	t.Parallel()
	met := map[string]int{}
	for _, made := range made(t, 3000) {
		l := made.linked
		script, origins := Bundle(l)
		var want []api.Origin
		for _, mod := range shake.Spaces(l) {
			want = append(want, api.Origin{Mod: mod, Item: -1})
		}
		want = append(want, shake.Keep(l)...)
		if !slices.Equal(origins, want) || len(script.Kids) != len(want) || tree.Form(script) != api.FormScript {
			t.Fatalf("%q: %d items of %s, want %s; the form %d", made.sources, len(script.Kids), told(origins), told(want), tree.Form(script))
		}
		for i, o := range origins {
			is := spaceOf(l, o.Mod)
			if o.Item >= 0 {
				is, _ = rename.Item(l, o.Mod, o.Item)
				met["images"]++
			} else {
				met["namespaces"]++
				met[fmt.Sprint("ones ", min(len(is.Kids), 3))]++
			}
			if !tree.Same(script.Kids[i], is) {
				t.Fatalf("%q: of %s\n%s\nwant\n%s", made.sources, told(origins[i:i+1]), show.Show(script), show.Show(is))
			}
		}
	}
	for what, often := range map[string]int{"images": 10000, "namespaces": 2000, "ones 0": 50, "ones 1": 100, "ones 2": 100, "ones 3": 100} {
		if met[what] < often {
			t.Error(met)
		}
	}
}

// spaceOf is a module's namespace, by the text of its source.
func spaceOf(l api.Linked, mod int) api.Node {
	s := "namespace " + rename.Space(mod) + " { "
	for _, name := range exports.Names(l.Entries, mod) {
		switch f := exports.Resolve(l.Entries, mod, name); {
		case !link.Value(l, f):
		case f.Kind == api.FoundSpace:
			s += name + " = " + rename.Space(f.Mod) + "; "
		default:
			s += name + " = " + rename.Name(f.Mod, f.Name) + "; "
		}
	}
	script, _, _ := module.Script(s + "}")
	return script.Kids[0]
}

// 22.3, T5, T7: where types can be given to the modules, each name of the bundle says something, no two tops have one name, and the bundle is read as it was.
func TestTaken(t *testing.T) {
	t.Parallel()
	tops := 0
	for _, made := range made(t, 2500) {
		if !made.typed {
			continue
		}
		script, origins := Bundle(made.linked)
		s, place, err := scope.Resolve(script)
		if err != api.OK {
			t.Fatalf("%q: the error %d at %d of\n%s", made.sources, err, place, show.Show(script))
		}
		met := map[string]int{}
		for _, top := range s.Tops {
			o := origins[top.Item]
			mod, name, ok := rename.Back(top.Name)
			if met[top.Name]++; met[top.Name] > 1 || !ok || mod != o.Mod || (name == "") != (o.Item < 0) {
				t.Fatalf("%q: the top %s of %v", made.sources, top.Name, o)
			}
		}
		tops += len(s.Tops)
		text := show.Show(script)
		again, at, err := module.Script(text)
		if err != api.OK || !tree.Same(again, script) || show.Show(again) != text {
			t.Fatalf("%q: the error %d at %d of\n%s", made.sources, err, at, text)
		}
	}
	if tops < 5000 {
		t.Error(tops)
	}
}

// A reach is what the items of a bundle use of one another, by their names.
type reach struct {
	declares []string   // of each item its top; "" of what has none
	uses     [][]string // of each item the tops that it uses
}

func reachOf(script api.Node, s api.Scope) reach {
	r := reach{make([]string, len(script.Kids)), make([][]string, len(script.Kids))}
	for _, top := range s.Tops {
		r.declares[top.Item] = top.Name
	}
	at := 1
	for i, item := range script.Kids {
		end := at + tree.Size(item)
		for _, u := range s.Uses {
			if u.At >= at && u.At < end && u.Kind == api.UseTop {
				r.uses[i] = append(r.uses[i], u.Name)
			}
		}
		at = end
	}
	return r
}

// from are the numbers of the items that can be reached from some.
func (r reach) from(first []int) map[int]int {
	met := map[int]int{}
	for len(first) > 0 {
		i := first[0]
		first = first[1:]
		if met[i]++; met[i] > 1 {
			continue
		}
		for _, name := range r.uses[i] {
			first = append(first, slices.Index(r.declares, name))
		}
	}
	return met
}

// T3: in the bundle stand all items that are not pure, and what the entry exports; all else that stands there is reached from them over the bundle's own names.
func TestJustWhatIsNeeded(t *testing.T) {
	t.Parallel()
	reached := 0
	for _, made := range made(t, 2500) {
		if !made.typed {
			continue
		}
		l := made.linked
		script, origins := Bundle(l)
		s, _, _ := scope.Resolve(script)
		r := reachOf(script, s)
		var first []int
		for _, one := range spaceOf(l, 0).Kids {
			i := slices.Index(r.declares, one.Kids[0].Text)
			if i < 0 {
				t.Fatalf("%q: the entry exports %s, that is not in the bundle", made.sources, one.Text)
			}
			first = append(first, i)
		}
		for _, mod := range walked(l) {
			for item, n := range l.Graph.Mods[mod].Tree.Kids {
				if pure.Item(n) {
					continue
				}
				i := slices.Index(origins, api.Origin{Mod: mod, Item: item})
				if i < 0 {
					t.Fatalf("%q: the item %d of %d is not pure, and is not in the bundle", made.sources, item, mod)
				}
				first = append(first, i)
			}
		}
		if met := r.from(first); len(met) != len(script.Kids) {
			t.Fatalf("%q: of %d items only %d are needed:\n%s", made.sources, len(script.Kids), len(met), show.Show(script))
		}
		reached += len(script.Kids) - len(slices.Compact(slices.Sorted(slices.Values(first))))
	}
	if reached < 3000 {
		t.Error(reached)
	}
}

// T3: the images stand in the order of evaluation, then by items.
func TestItemsInOrder(t *testing.T) {
	t.Parallel()
	turned := 0
	for _, made := range made(t, 1500) {
		_, origins := Bundle(made.linked)
		order := Order(made.linked)
		for i := 1; i < len(origins); i++ {
			a, b := origins[i-1], origins[i]
			before, after := slices.Index(order, a.Mod), slices.Index(order, b.Mod)
			switch {
			case b.Item < 0 && (a.Item >= 0 || a.Mod >= b.Mod),
				a.Item >= 0 && (before < 0 || after < before || after == before && a.Item >= b.Item):
				t.Fatalf("%q: %s; evaluated %v", made.sources, told(origins), order)
			case a.Item >= 0 && a.Mod > b.Mod:
				turned++
			}
		}
	}
	if turned < 500 {
		t.Error(turned)
	}
}

// T4: the bundle hangs on no order of writes, on no files that were removed, and on none that nobody asks for.
func TestOrderOfFiles(t *testing.T) {
	t.Parallel()
	for seed, made := range made(t, 600) {
		rng := rand.New(rand.NewSource(int64(seed)))
		files := vfs.New()
		for i := range 5 {
			files.Write(fmt.Sprintf("/x%d.ts", i), "import './a'; print(1);")
			files.Write(fmt.Sprintf("/%c.ts", 'a'+i), "print(2);")
			files.Write(fmt.Sprintf("/%c/index.ts", 'a'+i), "print(3);")
		}
		for i := range 5 {
			files.Remove(fmt.Sprintf("/%c.ts", 'a'+i))
		}
		for _, i := range rng.Perm(len(made.sources)) {
			files.Write(fmt.Sprintf("/%c.ts", 'a'+i), made.sources[i])
		}
		g, _, _, _ := graph.Load(files, "/a")
		l, _, _, err := link.Link(g)
		if err != api.OK {
			t.Fatal(err)
		}
		same(t, made, l)
	}
}

// same holds the bundle of other modules against that of those that were made.
func same(t *testing.T, made making, l api.Linked) {
	t.Helper()
	want, wanted := Bundle(made.linked)
	got, origins := Bundle(l)
	if !tree.Same(got, want) || !slices.Equal(origins, wanted) {
		t.Fatalf("%q:\n%s\nwant\n%s", made.sources, show.Show(got), show.Show(want))
	}
}

// 22.3: the bundle hangs on the linked modules alone: not on what their files are called, how they are laid out, or how they ask.
func TestLinkedAlone(t *testing.T) {
	t.Parallel()
	for _, made := range made(t, 600) {
		files := vfs.New()
		for i, s := range made.sources {
			files.Write(fmt.Sprintf("/deep/%c/index.ts", 'a'+i), strings.NewReplacer("'./", "'./.././", "; ", ";\n// import './none';\n").Replace(s))
		}
		g, path, name, err := graph.Load(files, "/deep/./a")
		if err != api.OK {
			t.Fatal(path, name, err)
		}
		l, _, _, err := link.Link(g)
		if err != api.OK {
			t.Fatal(err)
		}
		same(t, made, l)
	}
}

// 22.3: nor on modules of which types alone are asked for.
func TestTypesAlone(t *testing.T) {
	const a = "import type { T } from './b'; import { x } from './c'; let k: T = x; print(k);"
	const bundle = "let x$2 = 1; let k$0 = x$2; print(k$0);"
	for _, b := range []string{
		"export type T = number;", "print(1); export type T = any; print(T2); let T2 = 1;", "import './c'; export class T { }", "import './a'; import * as n from './b'; print(n); export type T = any;",
	} {
		sample{of(a, b, "export let x = 1;"), bundle, "2.0 0.2 0.3"}.hold(t)
	}
}

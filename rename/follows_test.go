package rename

import (
	"fmt"
	"math/rand"
	"slices"
	"testing"

	"gusset/api"
	"gusset/exports"
	"gusset/link"
	"gusset/module"
	"gusset/scope"
	"gusset/show"
	"gusset/tree"
)

// spaceOf is a module's namespace as a script has it.
func spaceOf(l api.Linked, mod int) api.Node {
	n := api.Node{Kind: api.Space, Text: Space(mod)}
	for _, name := range exports.Names(l.Entries, mod) {
		f := exports.Resolve(l.Entries, mod, name)
		if !link.Value(l, f) {
			continue
		}
		says := Space(f.Mod)
		if f.Kind == api.FoundOne {
			says = Name(f.Mod, f.Name)
		}
		n.Kids = append(n.Kids, api.Node{Kind: api.SpaceOne, Text: name, Kids: []api.Node{{Kind: api.Name, Text: says}}})
	}
	return n
}

// scriptOf is the script of all namespaces, and the images of all items; and of these where they come from.
func scriptOf(l api.Linked) (api.Node, []api.Origin) {
	script := api.Node{Kind: api.Script}
	var from []api.Origin
	for mod := range l.Graph.Mods {
		script.Kids = append(script.Kids, spaceOf(l, mod))
	}
	for mod, m := range l.Graph.Mods {
		for item := range m.Tree.Kids {
			if n, ok := Item(l, mod, item); ok {
				script.Kids, from = append(script.Kids, n), append(from, api.Origin{Mod: mod, Item: item})
			}
		}
	}
	return script, from
}

// A saying is what a use says: a name of the script, a builtin, or the number of a local declaration within the item.
type saying struct {
	kind  int
	name  string
	local int
}

// locals are the places of all that may be declared within the item at a place, but for types and the item's own top.
func locals(items []api.Node, item, at int) []int {
	var l []int
	var walk func(n api.Node, at, deep int)
	walk = func(n api.Node, at, deep int) {
		switch n.Kind {
		case api.TypeName, api.TypeArray, api.TypeUnion, api.TypeObject, api.TypeFunc:
			return
		case api.Let, api.Function, api.Param:
			if deep > 0 {
				l = append(l, at)
			}
		}
		deep++
		if n.Kind == api.Export || n.Kind == api.Default {
			deep--
		}
		for _, k := range n.Kids {
			at++
			walk(k, at, deep)
			at += tree.Size(k) - 1
		}
	}
	walk(items[item], at, 0)
	return l
}

// sayings are those of all value uses of an item of a tree; name tells what one that is neither local nor built in says.
func sayings(n api.Node, s api.Scope, item int, name func(u api.Use) string) []saying {
	at := 1
	for _, k := range n.Kids[:item] {
		at += tree.Size(k)
	}
	end := at + tree.Size(n.Kids[item])
	places := locals(n.Kids, item, at)
	var l []saying
	for _, u := range s.Uses {
		switch {
		case u.At < at || u.At >= end || u.Type:
		case u.Kind == api.UseBuiltin:
			l = append(l, saying{u.Kind, u.Name, 0})
		case u.Kind == api.UseLocal:
			l = append(l, saying{u.Kind, u.Name, slices.Index(places, u.Decl)})
		default:
			l = append(l, saying{0, name(u), 0})
		}
	}
	return l
}

// T7, 21.3: in a script of all images and namespaces each use says what it said in its module, and no two tops have one name.
func TestScripts(t *testing.T) {
	t.Parallel()
	met := map[int]int{}
	for seed := range int64(1200) {
		sources, l := made(t, seed, false)
		script, from := scriptOf(l)
		s, place, err := scope.Resolve(script)
		if tree.Form(script) != api.FormScript || err != api.OK {
			t.Fatalf("seed %d: %q: the form %d, the error %d at %d:\n%s", seed, sources, tree.Form(script), err, place, show.Show(script))
		}
		for i, o := range from {
			base := modelOf(l, o.Mod, map[string]int{}).base
			want := sayings(l.Graph.Mods[o.Mod].Tree, l.Scopes[o.Mod], o.Item, func(u api.Use) string { return base[u.At] })
			got := sayings(script, s, len(l.Graph.Mods)+i, func(u api.Use) string { return u.Name })
			if !slices.Equal(got, want) {
				t.Fatalf("seed %d: %q: the item %v says %v, want %v:\n%s", seed, sources, o, got, want, show.Show(script))
			}
			for _, one := range want {
				met[one.kind]++
				if one.local < 0 {
					t.Fatalf("seed %d: %q: %v", seed, sources, want)
				}
			}
		}
		for _, top := range s.Tops {
			mod, name, ok := Back(top.Name)
			if !ok || Name(mod, name) != top.Name || mod >= len(l.Graph.Mods) || (name == "") != (top.Kind == api.Space) {
				t.Fatalf("seed %d: the top %v of %d %q", seed, top, mod, name)
			}
		}
	}
	if met[0] < 5000 || met[api.UseLocal] < 500 || met[api.UseBuiltin] < 500 {
		t.Error(met)
	}
}

// T5: such a script is read as it was.
func TestScriptsAgain(t *testing.T) {
	t.Parallel()
	for seed := range int64(300) {
		sources, l := made(t, seed, false)
		script, _ := scriptOf(l)
		s := show.Show(script)
		if tree.Depth(script) > api.MaxNest {
			t.Fatalf("seed %d: %d", seed, tree.Depth(script))
		}
		again, at, err := module.Script(s)
		if err != api.OK || !tree.Same(again, script) || show.Show(again) != s {
			t.Fatalf("seed %d: %q: the error %d at %d of\n%s", seed, sources, err, at, s)
		}
	}
}

// asks tells whether an item takes part in what a module imports or exports from others.
func asks(n api.Node) bool {
	return n.Kind == api.Import || n.Kind == api.ExportFrom
}

// reordered is a module whose items stand in another order and among others, but for those that ask; and of each item the number that it has then.
func reordered(rng *rand.Rand, m api.Mod) (api.Mod, []int) {
	var moved []int
	for i, n := range m.Tree.Kids {
		if !asks(n) {
			moved = append(moved, i)
		}
	}
	rng.Shuffle(len(moved), func(i, j int) { moved[i], moved[j] = moved[j], moved[i] })
	numbers := make([]int, len(m.Tree.Kids))
	var items []api.Node
	next := 0
	for i, n := range m.Tree.Kids {
		old := i
		if !asks(n) {
			old = moved[next]
			next++
		}
		for range rng.Intn(3) {
			name := fmt.Sprintf("more%d", len(items))
			items = append(items, api.Node{Kind: api.Let, Text: name, Kids: []api.Node{{Kind: api.TypeArray, Kids: []api.Node{{Kind: api.TypeName, Text: "any"}}}, {Kind: api.Array, Kids: []api.Node{{Kind: api.Name, Text: name}}}}})
		}
		numbers[old] = len(items)
		items = append(items, m.Tree.Kids[old])
	}
	out := api.Mod{Path: m.Path, Tree: api.Node{Kind: api.Module, Kids: items}}
	for _, r := range m.Requests {
		r.Item = numbers[r.Item]
		out.Requests = append(out.Requests, r)
	}
	return out, numbers
}

// 21.3: an image hangs on what its uses lead to alone: not on where the item stands, and not on what stands beside it.
func TestItemsAlone(t *testing.T) {
	t.Parallel()
	moved := 0
	for seed := range int64(500) {
		sources, l := made(t, seed, true)
		rng := rand.New(rand.NewSource(seed))
		mod := rng.Intn(len(l.Graph.Mods))
		m, numbers := reordered(rng, l.Graph.Mods[mod])
		g := api.Graph{Mods: slices.Clone(l.Graph.Mods)}
		g.Mods[mod] = m
		other, _, _, err := link.Link(g)
		if err != api.OK {
			t.Fatalf("%q: the error %d", sources, err)
		}
		for item, number := range numbers {
			got, ok := Item(other, mod, number)
			want, is := Item(l, mod, item)
			if ok != is || !tree.Same(got, want) {
				t.Fatalf("%q: the item %d of %d is %s, at %d %s", sources, item, mod, show.Show(want), number, show.Show(got))
			}
			if is && number != item {
				moved++
			}
		}
	}
	if moved < 1000 {
		t.Error(moved)
	}
}

// 21.3: not on the names that a module has for what it imports, nor on the way by which that comes, nor on types.
func TestOtherWays(t *testing.T) {
	const c = "export let x = 1; export default function f() { } export class C { }"
	const want = "const k$0 = [x$1, f$1(), new C$1(), $1];"
	const list = "const k = [X, F(), new C(), N];"
	for _, source := range []string{
		"import { x as X, default as F, C } from './b'; import * as N from './b'; " + list,
		"import F, { C, x as X } from './b'; import F2, * as N from './b'; export " + list,
		"import * as N from './b'; import { C } from './b'; const k: any[] = [N.x, N.default(), new C(), N];",
		"import { X, F, C, N } from './c'; " + list,
		"import { N } from './c'; import { C as D } from './c'; const k: (null | D)[] = [N.x, N.default(), new D(), N];",
		"import * as q from './c'; import { C as print } from './d'; export const k = [q.X, q.q.F(), new print(), q.q.q.N];",
	} {
		holdLast(t, want, "import './b'; import './c'; import './d'; "+source, c,
			"export { x as X, default as F } from './b'; export * from './b'; export * as N from './b'; import * as q from './c'; export { q };", "export * from './c';")
	}
}

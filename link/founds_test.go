package link

import (
	"fmt"
	"math"
	"slices"
	"testing"

	"gusset/api"
	"gusset/exports"
	"gusset/scope"
	"gusset/tree"
)

// 13.1: what each import leads to, in the order of Imports.
func TestFounds(t *testing.T) {
	for _, c := range []struct {
		sources []string
		want    string
	}{
		{all(""), "[[]]"},
		{all("import './b'; import { } from './b'; export { x } from './b'; export * as n from './b'; export * from './b';", "export let x = 1;"), "[[] []]"},
		{all("import d, { x as y } from './b'; import * as n from './b';", "export default 5; export let x = 1;"), "[[{1 1 default false} {1 1 x false} {2 1  false}] []]"},
		{all("import e, * as n from './b';", "export default function f() { }"), "[[{1 1 f false} {2 1  false}] []]"},
		{all("import { b, a } from './b';", "export { c as a, d as b }; let c = 1; let d = 1;"), "[[{1 1 d false} {1 1 c false}] []]"},
		// A * is that of its module, whatever else leads there.
		{all("import * as a from './a'; import * as c from './c'; import * as b from './b';", "", "import * as a from './a';"), "[[{2 0  false} {2 1  false} {2 2  false}] [{2 0  false}] []]"},
		{all("import { n, x } from './b';", "export * as n from './c'; export * from './c';", "export let x = 1;"), "[[{2 2  false} {1 2 x false}] [] []]"},
		// Type is what the export says, not what the import does.
		{all("import type { C, T, v } from './b';", "export class C { } export type T = number; export let v = 1;"), "[[{1 1 C false} {1 1 T true} {1 1 v false}] []]"},
		{all("import { C, T, U } from './b';", "export type { C, T as U }; export { T }; class C { } type T = number;"), "[[{1 1 C true} {1 1 T false} {1 1 T true}] []]"},
		{all("import { C } from './b'; import { C as D } from './c';", "export type { C } from './c';", "export class C { }"), "[[{1 2 C true} {1 2 C false}] [] []]"},
		{all("import { x } from './b'; export let z = 1;", "import { y } from './c'; export { y as x };", "import { z } from './a'; export { z as y };"), "[[{1 0 z false}] [{1 0 z false}] [{1 0 z false}]]"},
	} {
		if got := fmt.Sprint(linked(t, c.sources...).Founds); got != c.want {
			t.Errorf("%q: %s, want %s", c.sources, got, c.want)
		}
	}
}

// sameGraph tells whether two graphs are the same.
func sameGraph(a, b api.Graph) bool {
	return slices.EqualFunc(a.Mods, b.Mods, func(a, b api.Mod) bool {
		return a.Path == b.Path && tree.Same(a.Tree, b.Tree) && slices.Equal(a.Requests, b.Requests)
	})
}

// 13.1: beside the founds stand the graph, and of each module scope's and exports' answers.
func TestLinked(t *testing.T) {
	g := loaded(t, "import { x as y } from './b'; import './c'; print(y); export { y }; function f(a: number) { return a; }", "export let x = 1; export * from './c'; import type { T } from './c';", "export type T = number; export * as n from './a';")
	l, _, _, err := Link(g)
	if err != api.OK || len(g.Mods) != 3 || !sameGraph(l.Graph, g) || len(l.Scopes) != 3 || len(l.Entries) != 3 || len(l.Founds) != 3 {
		t.Fatalf("%v, %d", l, err)
	}
	for i, m := range g.Mods {
		s, _, _ := scope.Resolve(m.Tree)
		if fmt.Sprint(l.Scopes[i]) != fmt.Sprint(s) {
			t.Errorf("%v, want %v", l.Scopes[i], s)
		}
		if e := exports.Entries(m.Tree, m.Requests); fmt.Sprint(l.Entries[i]) != fmt.Sprint(e) {
			t.Errorf("%v, want %v", l.Entries[i], e)
		}
	}
}

// kinds are those that a top may have, and others.
var kinds = []int{api.Let, api.Function, api.Class, api.Alias, api.Default, api.ImportOne, api.Space, api.Param, 0, -1, 99}

// 13.2: a found is a value by the kind of its top alone, where it is one without Type; a namespace always is, without Type.
func TestValue(t *testing.T) {
	var l api.Linked
	for _, k := range kinds {
		l.Scopes = append(l.Scopes, api.Scope{Tops: []api.Top{{Name: "a", Kind: api.Alias}, {Name: "x", Kind: k}, {Name: "z", Kind: api.Let}}})
	}
	values := map[int]bool{api.Let: true, api.Function: true, api.Class: true, api.Default: true}
	for mod, k := range kinds {
		for kind := -1; kind < 7; kind++ {
			for _, types := range []bool{false, true} {
				f := api.Found{Kind: kind, Mod: mod, Name: "x", Type: types}
				want := !types && (kind == api.FoundSpace || kind == api.FoundOne && values[k])
				if got := Value(l, f); got != want {
					t.Errorf("%v of the kind %d: %v", f, k, got)
				}
			}
		}
		for _, f := range []api.Found{{Kind: api.FoundOne, Mod: mod, Name: "none"}, {Kind: api.FoundOne, Mod: mod}, {Kind: api.FoundOne, Mod: mod, Name: "a"}} {
			if Value(l, f) {
				t.Errorf("%v is a value", f)
			}
		}
	}
	for _, mod := range []int{-1, len(kinds), math.MinInt, math.MaxInt} {
		if Value(l, api.Found{Kind: api.FoundOne, Mod: mod, Name: "z"}) {
			t.Errorf("a value of the module %d", mod)
		}
	}
	if !Value(l, api.Found{Kind: api.FoundSpace}) || Value(api.Linked{}, api.Found{Kind: api.FoundOne, Name: "z"}) || Value(api.Linked{}, api.Found{}) {
		t.Error("of nothing")
	}
}

// 13.2: of what was linked: each kind of top, by the names of its module.
func TestValueOfLinked(t *testing.T) {
	l := linked(t, "let l = 1; const c = 2; function f() { let x = 1; } class C { } type T = number; export default 1; import { y, y as T2 } from './b'; import * as n from './b';", "export type y = number;")
	for name, want := range map[string]bool{"l": true, "c": true, "f": true, "C": true, "T": false, "default": true, "y": false, "T2": false, "n": false, "x": false, "": false, "print": false} {
		if got := Value(l, api.Found{Kind: api.FoundOne, Name: name}); got != want {
			t.Errorf("%s: %v", name, got)
		}
	}
}

// 13.3: a top is itself, an import what it leads to; all else is nothing.
func TestTarget(t *testing.T) {
	l := linked(t, "import { x as y, C } from './b'; import * as n from './b'; import d from './c'; let v = 1;", "export let x = 1; export { C } from './c'; import { D as y } from './c';", "export type { D as C }; export class D { } export default 1;")
	for _, c := range []struct {
		mod  int
		kind int
		name string
		want api.Found
	}{
		{0, api.UseTop, "v", api.Found{Kind: api.FoundOne, Name: "v"}},
		{2, api.UseTop, "D", api.Found{Kind: api.FoundOne, Mod: 2, Name: "D"}},
		{2, api.UseTop, "default", api.Found{Kind: api.FoundOne, Mod: 2, Name: "default"}},
		{1, api.UseTop, "x", api.Found{Kind: api.FoundOne, Mod: 1, Name: "x"}},
		{0, api.UseImport, "y", api.Found{Kind: api.FoundOne, Mod: 1, Name: "x"}},
		{1, api.UseImport, "y", api.Found{Kind: api.FoundOne, Mod: 2, Name: "D"}},
		{0, api.UseImport, "C", api.Found{Kind: api.FoundOne, Mod: 2, Name: "D", Type: true}},
		{0, api.UseImport, "n", api.Found{Kind: api.FoundSpace, Mod: 1}},
		{0, api.UseImport, "d", api.Found{Kind: api.FoundOne, Mod: 2, Name: "default"}},
		// The name here counts.
		{0, api.UseImport, "x", api.Found{}},
		{0, api.UseImport, "default", api.Found{}},
		{0, api.UseImport, "", api.Found{}},
		{2, api.UseImport, "y", api.Found{}},
		{0, api.UseBuiltin, "y", api.Found{}},
		{0, api.UseLocal, "y", api.Found{}},
		{0, 0, "y", api.Found{}},
		{0, 5, "v", api.Found{}},
		{0, -1, "v", api.Found{}},
	} {
		for _, types := range []bool{false, true} {
			u := api.Use{At: 7, Kind: c.kind, Decl: 3, Name: c.name, Type: types}
			if got := Target(l, c.mod, u); got != c.want {
				t.Errorf("%v of %d: %v, want %v", u, c.mod, got, c.want)
			}
		}
	}
}

// 13.3, R1: modules that there are not, and linked graphs that have too little.
func TestTargetOfNothing(t *testing.T) {
	l := linked(t, "import { x } from './b';", "export let x = 1;")
	for _, mod := range []int{-1, 2, math.MinInt, math.MaxInt} {
		for kind := range 6 {
			if f := Target(l, mod, api.Use{Kind: kind, Name: "x"}); f != (api.Found{}) {
				t.Errorf("%d of %d: %v", kind, mod, f)
			}
		}
	}
	x := api.Use{Kind: api.UseImport, Name: "x"}
	for _, part := range []api.Linked{{}, {Graph: l.Graph}, {Graph: l.Graph, Entries: l.Entries}, {Graph: l.Graph, Founds: l.Founds}, {Graph: l.Graph, Entries: l.Entries, Founds: [][]api.Found{nil}}, {Entries: l.Entries, Founds: l.Founds}} {
		if f := Target(part, 0, x); f != (api.Found{}) {
			t.Errorf("%v: %v", part, f)
		}
	}
	if f := Target(l, 0, x); f != (api.Found{Kind: api.FoundOne, Mod: 1, Name: "x"}) {
		t.Error(f)
	}
}

package link

import (
	"fmt"
	"slices"
	"testing"

	"gusset/api"
	"gusset/graph"
	"gusset/vfs"
)

// loaded are the modules /a.ts, /b.ts and so on, as far as the first one asks for them.
func loaded(t *testing.T, sources ...string) api.Graph {
	t.Helper()
	files := vfs.New()
	for i, s := range sources {
		if err := files.Write("/"+string(rune('a'+i))+".ts", s); err != api.OK {
			t.Fatalf("%q: the error %d", s, err)
		}
	}
	g, path, name, err := graph.Load(files, "/a")
	if err != api.OK {
		t.Fatalf("%q: %s %s: the error %d", sources, path, name, err)
	}
	return g
}

// none tells whether a linked graph has nothing.
func none(l api.Linked) bool {
	return l.Graph.Mods == nil && l.Scopes == nil && l.Entries == nil && l.Founds == nil
}

// refused holds the error of some modules.
func refused(t *testing.T, sources []string, mod int, name string, err api.Errno) {
	t.Helper()
	l, gotMod, gotName, got := Link(loaded(t, sources...))
	if gotMod != mod || gotName != name || got != err || err != api.OK && !none(l) {
		t.Errorf("%q: module %d, name %q, error %d, %v; want %d, %q, %d", sources, gotMod, gotName, got, l.Founds, mod, name, err)
	}
}

// linked are modules without an error.
func linked(t *testing.T, sources ...string) api.Linked {
	t.Helper()
	l, mod, name, err := Link(loaded(t, sources...))
	if mod != 0 || name != "" || err != api.OK {
		t.Fatalf("%q: module %d, name %q, error %d", sources, mod, name, err)
	}
	return l
}

// A sample is modules, and the error that they have.
type sample struct {
	sources []string
	mod     int
	name    string
	err     api.Errno
}

func all(sources ...string) []string { return sources }

func hold(t *testing.T, samples []sample) {
	t.Helper()
	for _, s := range samples {
		refused(t, s.sources, s.mod, s.name, s.err)
	}
}

// 13.1: the chapter's examples.
func TestExamples(t *testing.T) {
	hold(t, []sample{
		{all("import { x } from './b'; x;", ""), 0, "x", api.ErrNoExport},
		{all("import { x } from './b'; x;", "export type x = number;"), 0, "x", api.ErrType},
		{all("import type { C } from './b'; new C();", "export class C {}"), 0, "C", api.ErrType},
	})
	l := linked(t, "import { C } from './b'; new C();", "export class C {}")
	if got := fmt.Sprint(l.Founds); got != "[[{1 1 C false}] []]" {
		t.Error(got)
	}
	// The sixth and the eighth example of the whole.
	hold(t, []sample{
		{all("import { x } from './b';", "export * from './c'; export * from './d';", "export let x = 1;", "export let x = 1;"), 0, "x", api.ErrAmbiguous},
		{all("import type { T } from './b'; const x: T = 1; print(x);", "export type T = number; print('never');"), 0, "", api.OK},
	})
}

// 13.1: each error of scope, with no name, whatever stands there; that of the first module, ahead of all others.
func TestScopeErrors(t *testing.T) {
	for _, c := range []struct {
		source string
		err    api.Errno
	}{
		{"let x = 1; let x = 2;", api.ErrTwice},
		{"import { x } from './a'; let x = 1;", api.ErrTwice},
		{"import { x, y as x } from './a';", api.ErrTwice},
		{"export { x }; export { x } from './a'; let x = 1;", api.ErrTwice},
		{"x;", api.ErrName},
		{"let x: T = 1;", api.ErrName},
		{"export { x };", api.ErrName},
		{"let x = 1; let y: x = 2;", api.ErrName},
		{"type T = number; T;", api.ErrName},
		{"const x = 1; x = 2;", api.ErrConst},
		{"import { x } from './a'; x = 2;", api.ErrConst},
		{"this;", api.ErrThis},
		{"return;", api.ErrThis},
	} {
		hold(t, []sample{
			{all(c.source), 0, "", c.err},
			{all("import './b'; import './c';", c.source, "y;"), 1, "", c.err},
			{all("import './b';", "import './c';", c.source), 2, "", c.err},
			{all("import type { x } from './b';", c.source), 1, "", c.err},
			// Ahead of what other modules, and this one, have by the other rules.
			{all("import { none } from './b';", c.source), 1, "", c.err},
			{all("import { S } from './b'; S; let v = 1; export type { v };", "import { none } from './c'; export type S = number; "+c.source, "export * from './c';"), 1, "", c.err},
		})
	}
}

// 13.1: imports, and exports of other modules, that lead to nothing; the name there.
func TestLostNames(t *testing.T) {
	hold(t, []sample{
		{all("import { x } from './b';", "let x = 1;"), 0, "x", api.ErrNoExport},
		{all("import { x as y } from './b';", "export let y = 1;"), 0, "x", api.ErrNoExport},
		{all("import { y as x } from './b';", "export let y = 1;"), 0, "", api.OK},
		{all("import x from './b';", "export let x = 1;"), 0, "default", api.ErrNoExport},
		{all("import { default as x } from './b';", "export { x }; let x = 1;"), 0, "default", api.ErrNoExport},
		{all("import x from './b';", "export * from './c';", "export default 1;"), 0, "default", api.ErrNoExport},
		{all("import x from './b';", "export { default } from './c';", "export default 1;"), 0, "", api.OK},
		{all("import { if as x } from './b';", "export { x as if }; let x = 1;"), 0, "", api.OK},
		{all("import { else as x } from './b';", "export { x as if }; let x = 1;"), 0, "else", api.ErrNoExport},
		{all("import type { T } from './b';", "type T = number;"), 0, "T", api.ErrNoExport},
		{all("import { x } from './a';"), 0, "x", api.ErrNoExport},
		{all("import { x as y } from './a'; export let x = 1;"), 0, "", api.OK},
		{all("export { x } from './b';", "let x = 1;"), 0, "x", api.ErrNoExport},
		{all("export { x as y } from './b';", "export let y = 1;"), 0, "x", api.ErrNoExport},
		{all("export { default } from './b';", "export let x = 1;"), 0, "default", api.ErrNoExport},
		{all("export type { T } from './b';", ""), 0, "T", api.ErrNoExport},
		{all("import './b';", "export { x as y } from './a';"), 1, "x", api.ErrNoExport},
		// What is imported is not exported.
		{all("import { x } from './b';", "import { x } from './c';", "export let x = 1;"), 0, "x", api.ErrNoExport},
		{all("import { x } from './b';", "import { x } from './c'; export { x };", "export let x = 1;"), 0, "", api.OK},
		// All of a module is always there, also of one that has nothing.
		{all("import * as n from './b';", ""), 0, "", api.OK},
		{all("import * as n from './a'; export { n };"), 0, "", api.OK},
		{all("export * as n from './b';", ""), 0, "", api.OK},
		{all("export * from './b';", ""), 0, "", api.OK},
		{all("import './b'; import { } from './b';", ""), 0, "", api.OK},
	})
	hold(t, []sample{
		{all("import { y as x } from './b';", "export * from './c'; export * from './d';", "export let y = 1;", "export let y = 1;"), 0, "y", api.ErrAmbiguous},
		{all("export { y as x } from './b';", "export * from './c'; export * from './d';", "export let y = 1;", "export let y = 1;"), 0, "y", api.ErrAmbiguous},
		{all("export * from './b'; export * from './c';", "export let y = 1;", "export let y = 1;"), 0, "", api.OK},
		{all("import { y } from './b';", "export * from './c'; export * from './d';", "export let y = 1;", "export { y } from './c';"), 0, "", api.OK},
		{all("import { y } from './b';", "export let y = 1; export * from './c'; export * from './d';", "export let y = 1;", "export let y = 1;"), 0, "", api.OK},
		{all("export { x } from './b';", "export { x } from './a';"), 0, "x", api.ErrCircular},
		{all("export { x as y } from './b';", "export { y as x } from './a';"), 0, "x", api.ErrCircular},
		{all("import { x } from './b';", "export { x } from './b';"), 0, "x", api.ErrCircular},
		{all("import { x } from './b'; export { x };", "import { x } from './a'; export { x };"), 0, "x", api.ErrCircular},
		{all("import { z } from './b';", "export * from './b';"), 0, "z", api.ErrCircular},
	})
}

// 13.1: by modules, in each its Imports, then its Others, each in its order.
func TestLostOrder(t *testing.T) {
	twice := "export * from './c'; export * from './d'; export { k } from './b';"
	sources := func(a string) []string {
		return all(a, twice, "export let m = 1; export let x = 1;", "export let m = 1; export let y = 1;")
	}
	hold(t, []sample{
		{sources("import { p, m, k } from './b';"), 0, "p", api.ErrNoExport},
		{sources("import { m, k, p } from './b';"), 0, "m", api.ErrAmbiguous},
		{sources("import { k, p, m } from './b';"), 0, "k", api.ErrCircular},
		{sources("import { x, y } from './b'; import { p } from './b'; import { m } from './b';"), 0, "p", api.ErrNoExport},
		{sources("export { p, m, k } from './b';"), 0, "p", api.ErrNoExport},
		{sources("export { m, k, p } from './b';"), 0, "m", api.ErrAmbiguous},
		{sources("export { x, k, p } from './b'; export { m } from './b';"), 0, "k", api.ErrCircular},
		{sources("export { p } from './b'; import { m } from './b';"), 0, "m", api.ErrAmbiguous},
		{sources("export { p } from './b'; import { x as m } from './b'; export { m }; import { k } from './b';"), 0, "k", api.ErrCircular},
		{sources("export { p } from './b'; import { x } from './b'; export { x };"), 0, "p", api.ErrNoExport},
		// The other module has a k that leads to itself: this one stands ahead.
		{sources("export { p } from './c'; import { x } from './b';"), 0, "p", api.ErrNoExport},
		{sources("import { x } from './b';"), 1, "k", api.ErrCircular},
		// The order is that of the graph's modules, not that of requests of types alone.
		{all("import type { T } from './b'; import './c';", "import { p } from './c'; export type T = number;", "import { q } from './a';"), 1, "p", api.ErrNoExport},
		{all("import './c'; import type { T } from './b';", "import { p } from './c'; export type T = number;", "import { q } from './a';"), 1, "q", api.ErrNoExport},
	})
}

// 13.1: names that lead to nothing stand ahead of uses, those of earlier modules too.
func TestLostAheadOfTypes(t *testing.T) {
	hold(t, []sample{
		{all("import { T } from './b'; T; export type { v }; let v = 1;", "export type T = number; export { none } from './a';"), 1, "none", api.ErrNoExport},
		{all("import { T } from './b'; T;", "export type T = number; import './c';", "export { v } from './d';", ""), 2, "v", api.ErrNoExport},
		{all("import { T } from './b'; T;", "export type T = number; import './c';", "export { v } from './d';", "export let v = 1;"), 0, "T", api.ErrType},
		{all("import { T, v } from './b'; T;", "export type T = number;"), 0, "v", api.ErrNoExport},
	})
}

// 13.1: errors are looked for in module order, where the modules are those of any graph.
func TestWrongGraphs(t *testing.T) {
	module := api.Node{Kind: api.Module}
	for _, c := range []struct {
		trees []api.Node
		mod   int
		err   api.Errno
	}{
		{nil, 0, api.OK},
		{[]api.Node{{}}, 0, api.ErrTree},
		{[]api.Node{module, {Kind: api.Num, N: 1}}, 1, api.ErrTree},
		{[]api.Node{module, module, {Kind: api.Module, N: 1}}, 2, api.ErrTree},
		{[]api.Node{{Kind: api.Module, Kids: []api.Node{{Kind: api.Import}, {Kind: api.Export}}}}, 0, api.ErrTree},
		{[]api.Node{module, module}, 0, api.OK},
	} {
		var g api.Graph
		for _, n := range c.trees {
			g.Mods = append(g.Mods, api.Mod{Tree: n})
		}
		l, mod, name, err := Link(g)
		if mod != c.mod || name != "" || err != c.err || err != api.OK && !none(l) || err == api.OK && len(l.Founds) != len(c.trees) {
			t.Errorf("%v: %v %d %q %d", c.trees, l, mod, name, err)
		}
	}
}

// 13.1: requests that lead to no module, or that are not there: nothing is found there but all of it.
func TestWrongTargets(t *testing.T) {
	g := loaded(t, "import { x } from './b'; import * as n from './b'; x; n;", "export let x = 1;")
	for _, target := range []int{-1, 2, 9, -1 << 63, 1<<63 - 1} {
		mods := slices.Clone(g.Mods)
		mods[0].Requests = []api.Request{{Item: 0, Target: target}, {Item: 1, Target: 1}}
		if _, mod, name, err := Link(api.Graph{Mods: mods}); mod != 0 || name != "x" || err != api.ErrNoExport {
			t.Errorf("%d: %d %q %d", target, mod, name, err)
		}
		mods[0].Requests = []api.Request{{Item: 0, Target: 1}, {Item: 1, Target: target}}
		if l, _, _, err := Link(api.Graph{Mods: mods}); err != api.OK || l.Founds[0][1] != (api.Found{Kind: api.FoundSpace, Mod: target}) {
			t.Errorf("%d: %v %d", target, l.Founds, err)
		}
	}
	g.Mods[0].Requests = nil
	if _, mod, name, err := Link(g); mod != 0 || name != "x" || err != api.ErrNoExport {
		t.Errorf("%d %q %d", mod, name, err)
	}
}

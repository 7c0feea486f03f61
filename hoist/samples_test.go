package hoist

import (
	"fmt"
	"slices"
	"strings"
	"testing"

	"gusset/api"
	"gusset/graph"
	"gusset/link"
	"gusset/module"
	"gusset/show"
	"gusset/tree"
	"gusset/vfs"
)

// loaded are the modules /a.ts, /b.ts and so on, as far as /a asks for them.
func loaded(t *testing.T, sources ...string) api.Graph {
	t.Helper()
	files := vfs.New()
	for i, s := range sources {
		if err := files.Write(fmt.Sprintf("/%c.ts", 'a'+i), s); err != api.OK {
			t.Fatalf("%.200q: the error %d", s, err)
		}
	}
	g, path, name, err := graph.Load(files, "/a")
	if err != api.OK {
		t.Fatalf("%.200q: %s %s, the error %d", sources, path, name, err)
	}
	return g
}

func linked(t *testing.T, sources ...string) api.Linked {
	t.Helper()
	l, mod, name, err := link.Link(loaded(t, sources...))
	if err != api.OK {
		t.Fatalf("%.200q: %d %s, the error %d", sources, mod, name, err)
	}
	return l
}

// told is a list of origins in short: 1.2 is the item 2 of module 1, 1.* its namespace.
func told(l []api.Origin) string {
	var s []string
	for _, o := range l {
		s = append(s, strings.Replace(fmt.Sprintf("%d.%d", o.Mod, o.Item), "-1", "*", 1))
	}
	return strings.Join(s, " ")
}

// A sample is modules, the bundle as a script's source, in any layout, and where its items come from.
type sample struct {
	sources         []string
	bundle, origins string
}

// of are the sources of a sample.
func of(l ...string) []string { return l }

func (s sample) hold(t *testing.T) {
	t.Helper()
	s.holdOf(t, linked(t, s.sources...))
}

func (s sample) holdOf(t *testing.T, l api.Linked) {
	t.Helper()
	want, at, err := module.Script(s.bundle)
	if err != api.OK {
		t.Fatalf("%q: the error %d at %d", s.bundle, err, at)
	}
	got, origins := Bundle(l)
	if !tree.Same(got, want) {
		t.Errorf("%.300q:\ngot\n%.1000s\nwant\n%.1000s", s.sources, show.Show(got), show.Show(want))
	}
	if told(origins) != s.origins {
		t.Errorf("%.300q: the origins %.300s, want %.300s", s.sources, told(origins), s.origins)
	}
}

// 22.2: the chapter's example, line by line.
func TestExample(t *testing.T) {
	l := linked(t, "import * as n from './b'; const m: any = n; print(m.x);", "export const x = 5;")
	script, origins := Bundle(l)
	want := "namespace $1 {\n  x = x$1;\n}\nconst x$1 = 5;\nconst m$0 = $1;\nprint(m$0.x);\n"
	if got := show.Show(script); got != want {
		t.Errorf("%s\nwant\n%s", got, want)
	}
	if want := []api.Origin{{Mod: 1, Item: -1}, {Mod: 1, Item: 0}, {Mod: 0, Item: 1}, {Mod: 0, Item: 2}}; !slices.Equal(origins, want) {
		t.Error(origins)
	}
	if got := Order(l); !slices.Equal(got, []int{1, 0}) {
		t.Error(got)
	}
}

// The document's examples of the whole, as far as they come to a bundle.
func TestExamplesOfTheWhole(t *testing.T) {
	for _, s := range []sample{
		{of("import { x } from './b'; print(x);", "export const x: number = 5;"), "const x$1 = 5; print(x$1);", "1.0 0.1"},
		{of("import { x } from './b'; print(x);", `export const x: number = 5; const y: number = 6; print("b");`), `const x$1 = 5; print("b"); print(x$1);`, "1.0 1.2 0.1"},
		{of("import * as n from './b'; print(n.x);", "export const x: number = 5;"), "const x$1 = 5; print(x$1);", "1.0 0.1"},
		{of("import * as n from './b'; const m: any = n; print(m.x);", "export const x: number = 5;"), "namespace $1 { x = x$1; } const x$1 = 5; const m$0 = $1; print(m$0.x);", "1.* 1.0 0.1 0.2"},
		{of("import { g } from './b'; export const k: number = 1; print(g());", "import { k } from './a'; export function g(): number { return k; }"), "function g$1() { return k$0; } const k$0 = 1; print(g$1());", "1.1 0.1 0.2"},
		{of("import { g } from './b'; export const k: number = 1; print(g());", "import { k } from './a'; export function g(): number { return k; } print(k);"), "function g$1() { return k$0; } print(k$0); const k$0 = 1; print(g$1());", "1.1 1.2 0.1 0.2"},
		{of("import type { T } from './b'; const x: T = 1; print(x);", `export type T = number; print("never");`), "const x$0 = 1; print(x$0);", "0.1 0.2"},
		{of("let i = 0; while (i < 3) { i = i + 1; print(i); }"), "let i$0 = 0; while (i$0 < 3) { i$0 = i$0 + 1; print(i$0); }", "0.0 0.1"},
		{of("import f from './b'; print(f());", "export default function f(): number { return 7; }"), "function f$1() { return 7; } print(f$1());", "1.0 0.1"},
	} {
		s.hold(t)
	}
}

// 22.2: images stand in the order of what is kept; of each form of an item.
func TestImages(t *testing.T) {
	for _, s := range []sample{
		{of(""), "", ""},
		{of("let x = 1; function f() { } class C { } type T = number;"), "", ""},
		{of("export let x = 1; export function f() { } export class C { } export type T = number;"), "let x$0 = 1; function f$0() { } class C$0 { }", "0.0 0.1 0.2"},
		{of("let x = 1; export { x }; export { x as y };"), "let x$0 = 1;", "0.0"},
		{of("export default 5;"), "const default$0 = 5;", "0.0"},
		{of("export default (1 + 2); print(1);"), "const default$0 = 1 + 2; print(1);", "0.0 0.1"},
		{of("import d from './b'; print(d);", "export default [() => d2]; let d2 = 2;"), "const default$1 = [() => d2$1]; let d2$1 = 2; print(default$1);", "1.0 1.1 0.1"},
		{of("import D from './b'; new D();", "export default class e { k: number = 1; m(p: number): void2 { } } type void2 = any;"), "class e$1 { k = 1; m(p) { } } new e$1();", "1.0 0.1"},
		{of("f(1); { let x: number = y; { x; } } function f(p: number): number { return y; } if (y) { throw y; } let y: number = 2;"),
			"f$0(1); { let x = y$0; { x; } } function f$0(p) { return y$0; } if (y$0) { throw y$0; } let y$0 = 2;", "0.0 0.1 0.2 0.3 0.4"},
		// The same names in each module, and a top that is called like a builtin.
		{of("import { x as y } from './b'; let x = 1; print(x + y); function print(p) { }", "import { x as y } from './c'; export let x = 2; print(x + y);", "export let x = 3; print(x);"),
			"let x$2 = 3; print(x$2); let x$1 = 2; print(x$1 + x$2); let x$0 = 1; print$0(x$0 + x$1); function print$0(p) { }", "2.0 2.1 1.1 1.2 0.1 0.2 0.3"},
		// What is found last stands where its module has it.
		{of("import { f } from './b'; f(); let z = 1;", "import { g } from './c'; export function f() { return g; } let z = 1;", "export let g = () => z; let z = 1; let y = z;"),
			"let g$2 = () => z$2; let z$2 = 1; let y$2 = z$2; function f$1() { return g$2; } f$1();", "2.0 2.1 2.2 1.1 0.1"},
		// Over stars, and over others' exports.
		{of("import { x, q } from './b'; print(x, q);", "export * from './c'; export { default as q } from './c';", "export let x = 1; export default x;"), "let x$2 = 1; const default$2 = x$2; print(x$2, default$2);", "2.0 2.1 0.1"},
	} {
		s.hold(t)
	}
}

// 22.2, R7: of a linked graph without modules the bundle is a script of nothing.
func TestNothing(t *testing.T) {
	for _, l := range []api.Linked{
		{},
		{Graph: api.Graph{Mods: []api.Mod{}}, Scopes: []api.Scope{}, Entries: []api.Entries{}, Founds: [][]api.Found{}},
		{Graph: api.Graph{Mods: []api.Mod{{}}}},
		{Scopes: make([]api.Scope, 3), Entries: make([]api.Entries, 3), Founds: make([][]api.Found, 3)},
	} {
		sample{}.holdOf(t, l)
		if got := Order(l); len(got) != len(l.Graph.Mods) {
			t.Error(got)
		}
	}
}

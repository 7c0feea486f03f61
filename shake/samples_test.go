package shake

import (
	"fmt"
	"strings"
	"testing"

	"gusset/api"
	"gusset/graph"
	"gusset/link"
	"gusset/vfs"
)

// loaded are the modules /a.ts, /b.ts and so on, as far as /a asks for them.
func loaded(t *testing.T, sources ...string) api.Graph {
	t.Helper()
	files := vfs.New()
	for i, s := range sources {
		if err := files.Write(fmt.Sprintf("/%c.ts", 'a'+i), s); err != api.OK {
			t.Fatalf("%.200q: the error %d", s, err)
		}
	}
	g, path, name, err := graph.Load(files, "/a")
	if err != api.OK {
		t.Fatalf("%.200q: %s %s, the error %d", sources, path, name, err)
	}
	return g
}

func linked(t *testing.T, sources ...string) api.Linked {
	t.Helper()
	l, mod, name, err := link.Link(loaded(t, sources...))
	if err != api.OK {
		t.Fatalf("%.200q: %d %s, the error %d", sources, mod, name, err)
	}
	return l
}

// told is a list of items in short: 1.2 is the item 2 of module 1.
func told(l []api.Origin) string {
	var s []string
	for _, o := range l {
		s = append(s, fmt.Sprintf("%d.%d", o.Mod, o.Item))
	}
	return strings.Join(s, " ")
}

func toldSpaces(l []int) string {
	return strings.Trim(fmt.Sprint(l), "[]")
}

// A sample is modules, and what is answered of them.
type sample struct {
	sources             []string
	roots, keep, spaces string
}

func (s sample) hold(t *testing.T) {
	t.Helper()
	s.holdOf(t, linked(t, s.sources...))
}

func (s sample) holdOf(t *testing.T, l api.Linked) {
	t.Helper()
	got := sample{s.sources, told(Roots(l)), told(Keep(l)), toldSpaces(Spaces(l))}
	if got.roots != s.roots || got.keep != s.keep || got.spaces != s.spaces {
		t.Errorf("%q:\ngot  roots %q, keep %q, spaces %q\nwant roots %q, keep %q, spaces %q", s.sources, got.roots, got.keep, got.spaces, s.roots, s.keep, s.spaces)
	}
}

// of are the sources of a sample.
func of(l ...string) []string { return l }

// 20.1, 20.2: the chapter's examples.
func TestExamples(t *testing.T) {
	for _, s := range []sample{
		{of("import { x } from './b'; print(x);", `export const x = 1; const y = [2]; print("b");`), "1.2 0.1", "1.0 1.2 0.1", ""},
		{of("import { x } from './b'; print(x);", `export const x = 1; const y = [2]; print("b"); const w = x;`), "1.2 1.3 0.1", "1.0 1.2 1.3 0.1", ""},
		{of("import { x } from './b'; print(x);", `export const x = 1; const y = [2]; print("b"); const w = f(); function f() { }`), "1.2 1.3 0.1", "1.0 1.2 1.3 1.4 0.1", ""},
		{of("export { x } from './b';", "export const x = 1;"), "1.0", "1.0", ""},
		{of("import * as n from './b'; print(n);", "export const x = 1; const y = 2;"), "0.1", "1.0 0.1", "1"},
	} {
		s.hold(t)
	}
}

// T3: the document's examples of the whole, as far as items are left out of them.
func TestExamplesOfTheWhole(t *testing.T) {
	for _, s := range []sample{
		{of("import { x } from './b'; print(x);", "export const x: number = 5;"), "0.1", "1.0 0.1", ""},
		{of("import { x } from './b'; print(x);", `export const x: number = 5; const y: number = 6; print("b");`), "1.2 0.1", "1.0 1.2 0.1", ""},
		{of("import * as n from './b'; print(n.x);", "export const x: number = 5;"), "0.1", "1.0 0.1", ""},
		{of("import * as n from './b'; const m: any = n; print(m.x);", "export const x: number = 5;"), "0.1 0.2", "1.0 0.1 0.2", "1"},
		{of("import { g } from './b'; export const k: number = 1; print(g());", "import { k } from './a'; export function g(): number { return k; }"), "0.1 0.2", "1.1 0.1 0.2", ""},
		{of("import { g } from './b'; export const k: number = 1; print(g());", "import { k } from './a'; export function g(): number { return k; } print(k);"), "1.2 0.1 0.2", "1.1 1.2 0.1 0.2", ""},
		{of("import type { T } from './b'; const x: T = 1; print(x);", `export type T = number; print("never");`), "0.2", "0.1 0.2", ""},
		{of("let i = 0; while (i < 3) { i = i + 1; print(i); }"), "0.1", "0.0 0.1", ""},
		{of("import f from './b'; print(f());", "export default function f(): number { return 7; }"), "0.1", "1.0 0.1", ""},
	} {
		s.hold(t)
	}
}

// R1: a linked graph without modules has nothing.
func TestNothing(t *testing.T) {
	for _, l := range []api.Linked{
		{},
		{Graph: api.Graph{Mods: []api.Mod{}}, Scopes: []api.Scope{}, Entries: []api.Entries{}, Founds: [][]api.Found{}},
		{Graph: api.Graph{Mods: []api.Mod{{}}}},
		{Scopes: make([]api.Scope, 3), Entries: make([]api.Entries, 3), Founds: make([][]api.Found, 3)},
	} {
		sample{}.holdOf(t, l)
	}
	sample{sources: of("")}.hold(t)
}

// 20.1: by the order of evaluation of their modules, then by items; of a circle as well.
func TestOrder(t *testing.T) {
	const two = "print(1); function f() { } print(2);"
	for _, s := range []sample{
		{of("print(1); import './b'; print(2); import './c'; print(3);", two, two), "1.0 1.2 2.0 2.2 0.0 0.2 0.4", "1.0 1.2 2.0 2.2 0.0 0.2 0.4", ""},
		{of("import './b'; import './c'; "+two, "import './c'; "+two, two), "2.0 2.2 1.1 1.3 0.2 0.4", "2.0 2.2 1.1 1.3 0.2 0.4", ""},
		{of("import './b'; "+two, "import './c'; "+two, "import './a'; import './b'; "+two), "2.2 2.4 1.1 1.3 0.1 0.3", "2.2 2.4 1.1 1.3 0.1 0.3", ""},
		{of("import './a'; " + two), "0.1 0.3", "0.1 0.3", ""},
		// /b asks for the types of /d alone: that does not set /d ahead of it.
		{of("import './b'; import './c';", "import type { T } from './d'; print(1);", "import './d'; print(2);", "export type T = number; print(3);"), "1.1 2.1 3.1", "1.1 2.1 3.1", ""},
	} {
		s.hold(t)
	}
	// What is found later stands where its module and item are.
	sample{of("import { f } from './b'; import { x } from './c'; f(); x; let y = 1;", "import { x, y } from './c'; export function f() { return [g, y]; } let z = 1; function g() { return x; }", "let w = 1; export let y = 2; let v = () => w; export let x = v();"), "2.3 0.2 0.3", "2.0 2.1 2.2 2.3 1.1 1.3 0.2 0.3", ""}.hold(t)
}

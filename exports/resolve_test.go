package exports

import (
	"fmt"
	"math"
	"slices"
	"strings"
	"testing"

	"gusset/api"
	"gusset/graph"
	"gusset/vfs"
)

// found is an answer in short.
func found(f api.Found) string {
	kind := [...]string{"none", "one", "space", "ambiguous", "circular"}[f.Kind]
	s := fmt.Sprint(kind, " ", f.Mod, " ", f.Name)
	if f.Type {
		s += "!"
	}
	switch f {
	case api.Found{}, api.Found{Kind: api.FoundAmbiguous}, api.Found{Kind: api.FoundCircular}:
		return kind
	}
	return s
}

// load is the entries of the modules 0, 1, .. with the sources, which ask for one another by ./0, ./1 and so on. A module beside them, which is left out, asks for each.
func load(t *testing.T, sources ...string) []api.Entries {
	t.Helper()
	table, first := vfs.New(), ""
	for i, s := range sources {
		table.Write(fmt.Sprint("/", i), s)
		first += fmt.Sprint("import './", i, "';")
	}
	table.Write("/all", first)
	g, path, name, err := graph.Load(table, "/all")
	if err != api.OK {
		t.Fatalf("%v: %q, %q, %d", sources, path, name, err)
	}
	// Their numbers are those of their paths.
	number := make([]int, len(g.Mods))
	for i, m := range g.Mods {
		fmt.Sscanf(m.Path, "/%d", &number[i])
	}
	l := make([]api.Entries, len(sources))
	for i, m := range g.Mods {
		if i > 0 {
			for j, r := range m.Requests {
				m.Requests[j].Target = number[r.Target]
			}
			l[number[i]] = Entries(m.Tree, m.Requests)
		}
	}
	return l
}

// A sample is sources, what names of module 0 lead to, and its names.
type sample struct {
	sources []string
	asked   map[string]string
	names   string
}

var samples = []sample{
	// The chapter's.
	{[]string{"export * from './1'; export * from './2';", "export * from './3';", "export * from './3';", "export const x = 1;"}, map[string]string{"x": "one 3 x", "y": "none", "default": "none"}, "x"},
	{[]string{"export * from './1'; export * from './2';", "export const x = 1;", "export const x = 2;"}, map[string]string{"x": "ambiguous"}, ""},
	{[]string{"export * from './1'; export * from './2'; export const x = 0;", "export const x = 1;", "export const x = 2;"}, map[string]string{"x": "one 0 x"}, "x"},
	{[]string{"export { x } from './1';", "export { x } from './0';"}, map[string]string{"x": "circular", "y": "none"}, ""},
	{[]string{"export * from './1';", "export * from './0';"}, map[string]string{"x": "circular", "default": "none"}, ""},
	{[]string{"export * from './1';", "export * from './0'; export let y = 1;"}, map[string]string{"y": "one 1 y", "x": "circular"}, "y"},
	// 12.2, 3: what a module has by itself, under the name there.
	{[]string{"let a = 1; export { a as b, a as c }; export default a; export type T = number; export class C { } export function f() { }"}, map[string]string{"a": "none", "b": "one 0 a", "c": "one 0 a", "default": "one 0 default", "T": "one 0 T!", "C": "one 0 C", "f": "one 0 f"}, "C T b c default f"},
	{[]string{"export default function f() { }"}, map[string]string{"f": "none", "default": "one 0 f"}, "default"},
	{[]string{"export default class C { }"}, map[string]string{"C": "none", "default": "one 0 C"}, "default"},
	{[]string{"export type { C }; class C { }"}, map[string]string{"C": "one 0 C!"}, "C"},
	{[]string{"let a = 1; let b = 2; export { a as x, b as x };"}, map[string]string{"x": "one 0 a"}, "x"},
	{[]string{"let a = 1; export type { a as x }; export { a as x };"}, map[string]string{"x": "one 0 a!"}, "x"},
	// 12.2, 4: what other modules have, over one and more, under other names.
	{[]string{"export { x } from './1';", "export let x = 1;"}, map[string]string{"x": "one 1 x"}, "x"},
	{[]string{"export { x as y } from './1';", "export { z as x } from './2';", "let a = 1; export { a as z };"}, map[string]string{"y": "one 2 a", "x": "none", "z": "none"}, "y"},
	{[]string{"export { x } from './1';", "export let y = 1;"}, map[string]string{"x": "none", "y": "none"}, ""},
	{[]string{"export { default } from './1';", "export default 1;"}, map[string]string{"default": "one 1 default"}, "default"},
	{[]string{"export { default as d } from './1';", "export default function f() { }"}, map[string]string{"d": "one 1 f", "default": "none"}, "d"},
	{[]string{"export { x as default } from './1';", "export let x = 1;"}, map[string]string{"default": "one 1 x"}, "default"},
	{[]string{"import { x as y } from './1'; export { y as z };", "export let x = 1;"}, map[string]string{"z": "one 1 x", "y": "none", "x": "none"}, "z"},
	{[]string{"import d from './1'; export { d };", "export { x as default }; let x = 1;"}, map[string]string{"d": "one 1 x"}, "d"},
	{[]string{"export * as n from './1';", "export let x = 1;"}, map[string]string{"n": "space 1 ", "x": "none"}, "n"},
	{[]string{"export * as n from './0';"}, map[string]string{"n": "space 0 "}, "n"},
	{[]string{"import * as n from './1'; export { n as p, n as default };", ""}, map[string]string{"p": "space 1 ", "default": "space 1 ", "n": "none"}, "default p"},
	{[]string{"export { n as m } from './1';", "export * as n from './2';", ""}, map[string]string{"m": "space 2 "}, "m"},
	{[]string{"export { a as x } from './1'; export { b as x } from './1';", "export let a = 1; export let b = 2;"}, map[string]string{"x": "one 1 a"}, "x"},
	// An own one stands ahead of others, wherever it stands.
	{[]string{"export { x } from './1'; export let x = 0;", "export let x = 1;"}, map[string]string{"x": "one 0 x"}, "x"},
	// Types alone: by the first entry, one on the way, or the last.
	{[]string{"export type { x } from './1';", "export let x = 1;"}, map[string]string{"x": "one 1 x!"}, "x"},
	{[]string{"export { x } from './1';", "export type { x } from './2';", "export let x = 1;"}, map[string]string{"x": "one 2 x!"}, "x"},
	{[]string{"export { T } from './1';", "export type T = number;"}, map[string]string{"T": "one 1 T!"}, "T"},
	{[]string{"import type { x } from './1'; export { x };", "export let x = 1;"}, map[string]string{"x": "one 1 x!"}, "x"},
	{[]string{"import * as n from './1'; export type { n };", ""}, map[string]string{"n": "space 1 !"}, "n"},
	{[]string{"export type { m } from './1';", "export * as m from './2';", ""}, map[string]string{"m": "space 2 !"}, "m"},
	{[]string{"export type { x } from './1';", "export { x } from './0';"}, map[string]string{"x": "circular"}, ""},
	{[]string{"export type { x } from './1';", ""}, map[string]string{"x": "none"}, ""},
	{[]string{"export type { x } from './1';", "export * from './2'; export * from './3';", "export let x = 1;", "export let x = 1;"}, map[string]string{"x": "ambiguous"}, ""},
	// Circles: of one module, by names that go round, by others and stars.
	{[]string{"export { x } from './0';"}, map[string]string{"x": "circular"}, ""},
	{[]string{"export { y as x, z as y, x as z } from './0';"}, map[string]string{"x": "circular", "y": "circular", "z": "circular"}, ""},
	{[]string{"export { y as x, z as y } from './0'; export let z = 1;"}, map[string]string{"x": "one 0 z", "y": "one 0 z"}, "x y z"},
	{[]string{"export * from './0';"}, map[string]string{"x": "circular", "default": "none"}, ""},
	{[]string{"export * from './0'; export let a = 1; export default 1;"}, map[string]string{"x": "circular", "a": "one 0 a", "default": "one 0 default"}, "a default"},
	{[]string{"export * from './1';", "export { x } from './0';"}, map[string]string{"x": "circular", "y": "none"}, ""},
	{[]string{"export * from './1'; export * from './2';", "export { x } from './0';", "export let x = 1;"}, map[string]string{"x": "one 2 x"}, "x"},
	{[]string{"export * from './2'; export * from './1';", "export { x } from './0';", "export let x = 1;"}, map[string]string{"x": "one 2 x"}, "x"},
	{[]string{"export * from './1'; export * from './2';", "export { x } from './0';", ""}, map[string]string{"x": "circular"}, ""},
	{[]string{"export * from './2'; export * from './1';", "export { x } from './0';", ""}, map[string]string{"x": "circular"}, ""},
	{[]string{"export { x } from './1';", "export { x } from './2';", "export { x } from './1';"}, map[string]string{"x": "circular"}, ""},
}

var starSamples = []sample{
	// 12.2, 5: default comes through no star, though it comes through another's name.
	{[]string{"export * from './1';", "export default 1; export let x = 1;"}, map[string]string{"default": "none", "x": "one 1 x"}, "x"},
	{[]string{"export { default } from './1';", "export * from './2';", "export default 1;"}, map[string]string{"default": "none"}, ""},
	{[]string{"export * from './1'; export default 2;", "export default 1;"}, map[string]string{"default": "one 0 default"}, "default"},
	{[]string{"export * from './1';", "export { default as x } from './2';", "export default 1;"}, map[string]string{"x": "one 2 default"}, "x"},
	{[]string{"export { x as default } from './1';", "export * from './2';", "export let x = 1;"}, map[string]string{"default": "one 2 x"}, "default"},
	// 12.2, 6: one, over one and more.
	{[]string{"export * from './1';", "export * from './2';", "export * from './3';", "export let x = 1;"}, map[string]string{"x": "one 3 x"}, "x"},
	{[]string{"export * from './1'; export * from './1';", "export let x = 1;"}, map[string]string{"x": "one 1 x"}, "x"},
	{[]string{"export * from './1'; export * from './2';", "export let x = 1;", "export let y = 1;"}, map[string]string{"x": "one 1 x", "y": "one 2 y"}, "x y"},
	// A name of a module's own, or of its others, hides those of its stars: also where that leads nowhere.
	{[]string{"export * from './1'; export { x } from './2';", "export let x = 1;", ""}, map[string]string{"x": "none"}, ""},
	{[]string{"export * from './1';", "export * from './2'; export let x = 1;", "export let x = 2;"}, map[string]string{"x": "one 1 x"}, "x"},
	{[]string{"export * from './1';", "export * from './2'; export { x } from './3';", "export let x = 2;", "export let x = 3;"}, map[string]string{"x": "one 3 x"}, "x"},
	{[]string{"export * from './1'; export { x } from './0';", "export let x = 1;"}, map[string]string{"x": "circular"}, ""},
	// Two ways to one binding are none too many: by stars, by names, under other names, to one namespace.
	{[]string{"export * from './1'; export * from './2';", "export { x } from './2';", "export let x = 1;"}, map[string]string{"x": "one 2 x"}, "x"},
	{[]string{"export * from './2'; export * from './1';", "export { x } from './2';", "export let x = 1;"}, map[string]string{"x": "one 2 x"}, "x"},
	{[]string{"export * from './1'; export * from './2';", "export { a as x } from './3';", "export { b as x } from './3';", "let c = 1; export { c as a, c as b };"}, map[string]string{"x": "one 3 c"}, "x"},
	{[]string{"export * from './1'; export * from './2';", "export * as x from './3';", "export * as x from './3';", ""}, map[string]string{"x": "space 3 "}, "x"},
	{[]string{"export * from './1'; export * from './2';", "export * as x from './3';", "import * as y from './3'; export { y as x };", ""}, map[string]string{"x": "space 3 "}, "x"},
	// Two that are not the same, by their modules, names or kinds.
	{[]string{"export * from './1'; export * from './2';", "export { a as x } from './3';", "export { b as x } from './3';", "export let a = 1; export let b = 1;"}, map[string]string{"x": "ambiguous"}, ""},
	{[]string{"export * from './1'; export * from './2';", "export * as x from './3';", "export * as x from './2';", ""}, map[string]string{"x": "ambiguous"}, ""},
	{[]string{"export * from './1'; export * from './2';", "export * as x from './2';", "export let x = 1;"}, map[string]string{"x": "ambiguous"}, ""},
	{[]string{"export * from './1'; export * from './2';", "export type x = number;", "export let x = 1;"}, map[string]string{"x": "ambiguous"}, ""},
	{[]string{"export * from './1'; export * from './2'; export * from './3';", "export let x = 1;", "", "export let x = 1;"}, map[string]string{"x": "ambiguous"}, ""},
	// What is ambiguous far away is so here, whatever else there is; where nobody asks it plays no part.
	{[]string{"export * from './1'; export * from './4';", "export * from './2'; export * from './3';", "export let x = 1;", "export let x = 1;", "export let x = 1; export let y = 1;"}, map[string]string{"x": "ambiguous", "y": "one 4 y"}, "y"},
	{[]string{"export * from './4'; export * from './1';", "export { x } from './5';", "export let x = 1;", "export let x = 1;", "", "export * from './2'; export * from './3';"}, map[string]string{"x": "ambiguous"}, ""},
	{[]string{"export * from './1';", "export * from './2'; export * from './3'; export let x = 1;", "export let x = 1;", "export let x = 1;"}, map[string]string{"x": "one 1 x"}, "x"},
	// Types alone: of two ways both must be.
	{[]string{"export * from './1'; export * from './2';", "export type { a as x } from './3';", "export type { b as x } from './3';", "let c = 1; export { c as a, c as b };"}, map[string]string{"x": "one 3 c!"}, "x"},
	{[]string{"export * from './1'; export * from './2';", "export type { a as x } from './3';", "export { b as x } from './3';", "let c = 1; export { c as a, c as b };"}, map[string]string{"x": "one 3 c"}, "x"},
	{[]string{"export * from './1'; export * from './2';", "export { a as x } from './3';", "export type { b as x } from './3';", "let c = 1; export { c as a, c as b };"}, map[string]string{"x": "one 3 c"}, "x"},
	{[]string{"export * from './1'; export * from './2';", "export * as x from './3';", "import * as y from './3'; export type { y as x };", ""}, map[string]string{"x": "space 3 "}, "x"},
	{[]string{"export * from './2'; export * from './2';", "", "export type { x } from './3';", "export let x = 1;"}, map[string]string{"x": "one 3 x!"}, "x"},
	// One pair is asked once: the way that comes first tells whether it is of types alone, as the second leads to nothing more.
	{[]string{"export * from './1'; export * from './2';", "export type { x } from './3';", "export { x } from './3';", "export let x = 1;"}, map[string]string{"x": "one 3 x!"}, "x"},
	{[]string{"export * from './2'; export * from './1';", "export type { x } from './3';", "export { x } from './3';", "export let x = 1;"}, map[string]string{"x": "one 3 x"}, "x"},
	{[]string{"export * from './1'; export * from './2';", "export * from './3';", "export type { x } from './3';", "export let x = 1;"}, map[string]string{"x": "one 3 x"}, "x"},
	// 12.3: rising, byte by byte; names that lead nowhere are left out.
	{[]string{"export let b = 1; export let a = 1; export let B = 1; export let ab = 1; export let _ = 1; export let ä = 1; export { no } from './1'; export * from './2'; export default 1;", "", "export let c = 1; export let a = 2; export default 1; export * as if from './1'; export * from './3'; export * from './4';", "export let d = 1; export let e = 1;", "export let d = 2; export type f = number;"}, map[string]string{"a": "one 0 a", "d": "ambiguous", "e": "one 3 e", "f": "one 4 f!", "if": "space 1 ", "no": "none"}, "B _ a ab b c default e f if ä"},
}

// 12.2, 12.3: sources, what their names lead to, and which ones they are.
func TestSamples(t *testing.T) {
	for _, s := range slices.Concat(samples, starSamples) {
		l := load(t, s.sources...)
		for name, want := range s.asked {
			if got := found(Resolve(l, 0, name)); got != want {
				t.Errorf("%q: %s leads to %s, want %s", s.sources, name, got, want)
			}
		}
		if got := strings.Join(Names(l, 0), " "); got != s.names {
			t.Errorf("%q: the names %s, want %s", s.sources, got, s.names)
		}
	}
}

// far are numbers that are no modules of n ones.
func far(n int) []int {
	return []int{n, -1, n + 1, 1 << 31, 1 << 32, -1 << 31, -1 << 32, math.MaxInt, math.MinInt}
}

// 12.2, 1: what is no module has nothing, whether it is asked first, or by an entry.
func TestNoModule(t *testing.T) {
	l := load(t, "export let x = 1; export default 1;", "export * from './0';")
	for _, mod := range far(2) {
		for _, name := range []string{"x", "default", "", "*"} {
			if f := Resolve(l, mod, name); f != (api.Found{}) {
				t.Errorf("%s of %d leads to %v", name, mod, f)
			}
			if f := Resolve(nil, mod, name); f != (api.Found{}) {
				t.Errorf("%s of %d leads to %v", name, mod, f)
			}
		}
		if names := Names(l, mod); len(names) > 0 {
			t.Errorf("%d has the names %q", mod, names)
		}
		by := []api.Entries{{
			Others: []api.Entry{{Here: "x", There: "x", Mod: mod, Type: true}, {Here: "n", There: "*", Mod: mod}},
			Stars:  []api.Entry{{Mod: mod}, {Mod: 1}},
		}, l[0]}
		if mod == 2 {
			by = append(by, api.Entries{})
		}
		for name, want := range map[string]api.Found{"x": {}, "n": {Kind: api.FoundSpace, Mod: mod}, "y": {}, "default": {}} {
			if f := Resolve(by, 0, name); f != want {
				t.Errorf("%s by way of %d leads to %v", name, mod, f)
			}
		}
		if names := Names(by, 0); !slices.Equal(names, []string{"n"}) {
			t.Errorf("by way of %d: the names %q", mod, names)
		}
	}
	if len(Names(nil, 0)) > 0 || Resolve(nil, 0, "x") != (api.Found{}) || len(Names([]api.Entries{{}}, 0)) > 0 {
		t.Error("there are names without modules")
	}
}

// 12.2: names are taken as they are, whatever entries have them; what else a star says plays no part.
func TestAnyEntries(t *testing.T) {
	l := []api.Entries{
		{
			Own:    []api.Entry{{Here: "a", There: ""}, {Here: "", There: "*", Type: true, Mod: 9, Item: -4}, {Here: "b", There: "\xff"}},
			Others: []api.Entry{{Here: "o", There: "", Mod: 0}, {Here: "p", There: "**", Mod: 0}},
			Stars:  []api.Entry{{Here: "y", There: "z", Mod: 1, Type: true, Item: 5}},
		},
		{Own: []api.Entry{{Here: "x", There: "x"}, {Here: "q", There: "z"}}},
	}
	for name, want := range map[string]string{"": "one 0 a", "*": "one 0 !", "\xff": "one 0 b", "o": "one 0 a", "p": "none", "x": "one 1 x", "z": "one 1 q", "y": "none"} {
		if got := found(Resolve(l, 0, name)); got != want {
			t.Errorf("%q leads to %s, want %s", name, got, want)
		}
	}
	if names := Names(l, 0); !slices.Equal(names, []string{"", "*", "o", "x", "z", "\xff"}) {
		t.Errorf("the names %q", names)
	}
	// A binding without a name is another one than the namespace of its module.
	l = []api.Entries{
		{Stars: []api.Entry{{Mod: 1}, {Mod: 2}}},
		{Own: []api.Entry{{There: "x"}}},
		{Others: []api.Entry{{Here: "x", There: "*", Mod: 1}}},
	}
	if got := found(Resolve(l, 0, "x")); got != "ambiguous" || len(Names(l, 0)) > 0 {
		t.Errorf("x leads to %s, and the names are %q", got, Names(l, 0))
	}
}

package exports

import (
	"fmt"
	"math"
	"slices"
	"strings"
	"testing"

	"gusset/api"
	"gusset/graph"
	"gusset/module"
	"gusset/tree"
)

// told is an entry in short: the name here, the one there, the module, the item, and ! of types alone.
func told(e api.Entry) string {
	s := fmt.Sprintf("%s=%s@%d#%d", e.Here, e.There, e.Mod, e.Item)
	if e.Type {
		s += "!"
	}
	return s
}

func toldAll(l []api.Entry) string {
	var all []string
	for _, e := range l {
		all = append(all, told(e))
	}
	return strings.Join(all, " ")
}

// lists are the four of some entries, in short.
func lists(e api.Entries) [4]string {
	return [4]string{toldAll(e.Imports), toldAll(e.Own), toldAll(e.Others), toldAll(e.Stars)}
}

// numbered are the requests of a module; they lead to the modules 10, 11 and so on.
func numbered(n api.Node) []api.Request {
	l := graph.Requests(n)
	for i := range l {
		l[i].Target = 10 + i
	}
	return l
}

func read(t *testing.T, source string) api.Node {
	t.Helper()
	n, at, err := module.Module(source)
	if err != api.OK {
		t.Fatalf("%q: the error %d at %d", source, err, at)
	}
	return n
}

// An entrySample is a source, and what stands in its Imports, Own, Others and Stars.
type entrySample struct {
	source string
	want   [4]string
}

var importSamples = []entrySample{
	{"", [4]string{}},
	{"import './m';", [4]string{}},
	{"import { } from './m';", [4]string{}},
	{"import d from './m';", [4]string{"d=default@10#0"}},
	{"import { a } from './m';", [4]string{"a=a@10#0"}},
	{"import { a as b, default as c, if as d, e } from './m';", [4]string{"b=a@10#0 c=default@10#0 d=if@10#0 e=e@10#0"}},
	{"import * as n from './m';", [4]string{"n=*@10#0"}},
	{"import d, * as n from './m';", [4]string{"d=default@10#0 n=*@10#0"}},
	{"import d, { a as b } from './m';", [4]string{"d=default@10#0 b=a@10#0"}},
	{"import type { T, U as V } from './m';", [4]string{"T=T@10#0! V=U@10#0!"}},
	{"import type T from './m';", [4]string{"T=default@10#0!"}},
	{"import type, { from as as } from './m';", [4]string{"type=default@10#0 as=from@10#0"}},
	{"print(1); import { a } from './m'; let b = 1; import { a as c } from './n'; import './m'; import type { a as d } from './m';", [4]string{"a=a@10#1 c=a@11#3 d=a@13#5!"}},
	// One name twice is scope's error: here each stands.
	{"import { a, b as a } from './m'; import { a } from './n';", [4]string{"a=a@10#0 a=b@10#0 a=a@11#1"}},
}

var ownSamples = []entrySample{
	{"let a = 1; const b = 2; function f() { } class C { } type T = number; print(1); { let c = 1; }", [4]string{}},
	{"export let a = 1;", [4]string{1: "a=a@-1#0"}},
	{"export const a = 1;", [4]string{1: "a=a@-1#0"}},
	{"export function f(a: number) { let b = a; }", [4]string{1: "f=f@-1#0"}},
	{"export class C { x = 1; m() { } }", [4]string{1: "C=C@-1#0"}},
	{"export type T = U; type U = number;", [4]string{1: "T=T@-1#0!"}},
	{"export default 1;", [4]string{1: "default=default@-1#0"}},
	{"export default a;", [4]string{1: "default=default@-1#0"}},
	{"export default 'a';", [4]string{1: "default=default@-1#0"}},
	{"export default a.b;", [4]string{1: "default=default@-1#0"}},
	{"export default new C();", [4]string{1: "default=default@-1#0"}},
	{"export default (function () { });", [4]string{1: "default=default@-1#0"}},
	{"export default () => { };", [4]string{1: "default=default@-1#0"}},
	{"export default function f() { }", [4]string{1: "f=default@-1#0"}},
	{"export default class C { }", [4]string{1: "C=default@-1#0"}},
	{"export { a as b }; const a = 1;", [4]string{1: "a=b@-1#0"}},
	{"const a = 1; export { a };", [4]string{1: "a=a@-1#1"}},
	{"export { a as default };", [4]string{1: "a=default@-1#0"}},
	{"export { a as if, b, a as a, a as c };", [4]string{1: "a=if@-1#0 b=b@-1#0 a=a@-1#0 a=c@-1#0"}},
	{"export type { T, a as b };", [4]string{1: "T=T@-1#0! a=b@-1#0!"}},
	{"export { T }; type T = number;", [4]string{1: "T=T@-1#0"}},
	{"print(1); export type { T }; export default 1; export let a = 1; export type T = number; export { b, c };", [4]string{1: "T=T@-1#1! default=default@-1#2 a=a@-1#3 T=T@-1#4! b=b@-1#5 c=c@-1#5"}},
	// An import that is exported by a declaration is no ExportOne's.
	{"import { a } from './m'; export let a = 1; export default a;", [4]string{0: "a=a@10#0", 1: "a=a@-1#1 default=default@-1#2"}},
}

var otherSamples = []entrySample{
	{"import { x as y } from './m'; export { y };", [4]string{0: "y=x@10#0", 2: "y=x@10#1"}},
	{"export { y }; import { x as y } from './m';", [4]string{0: "y=x@10#1", 2: "y=x@10#0"}},
	{"import { x as y } from './m'; export { x };", [4]string{0: "y=x@10#0", 1: "x=x@-1#1"}},
	{"import * as n from './m'; export { n as p };", [4]string{0: "n=*@10#0", 2: "p=*@10#1"}},
	{"import d from './m'; export { d as default, d, d as e };", [4]string{0: "d=default@10#0", 2: "default=default@10#1 d=default@10#1 e=default@10#1"}},
	{"import { a, b as c } from './m'; import e from './n'; export { e, d, c, a as f };", [4]string{0: "a=a@10#0 c=b@10#0 e=default@11#1", 1: "d=d@-1#2", 2: "e=default@11#2 c=b@10#2 f=a@10#2"}},
	// Of types alone, if one of both items is.
	{"import type { T } from './m'; export { T };", [4]string{0: "T=T@10#0!", 2: "T=T@10#1!"}},
	{"import { T } from './m'; export type { T };", [4]string{0: "T=T@10#0", 2: "T=T@10#1!"}},
	{"import type { T } from './m'; export type { T as U };", [4]string{0: "T=T@10#0!", 2: "U=T@10#1!"}},
	{"import { T } from './m'; export { T };", [4]string{0: "T=T@10#0", 2: "T=T@10#1"}},
	// Of two imports of one name the first.
	{"export { a }; import { b as a } from './m'; import type { c as a } from './n';", [4]string{0: "a=b@10#1 a=c@11#2!", 2: "a=b@10#0"}},
	// Of a request.
	{"export { z as w } from './m';", [4]string{2: "w=z@10#0"}},
	{"export { z } from './m';", [4]string{2: "z=z@10#0"}},
	{"export { default, a as default, if as else, b } from './m';", [4]string{2: "default=default@10#0 default=a@10#0 else=if@10#0 b=b@10#0"}},
	{"export type { T, U as V } from './m';", [4]string{2: "T=T@10#0! V=U@10#0!"}},
	{"export * as q from './m';", [4]string{2: "q=*@10#0"}},
	{"export * as default from './m';", [4]string{2: "default=*@10#0"}},
	{"import { a } from './m'; export { a } from './n'; export { a as b };", [4]string{0: "a=a@10#0", 2: "a=a@11#1 b=a@10#2"}},
	{"let z = 1; export { z } from './m';", [4]string{2: "z=z@10#1"}},
	{"export * from './m';", [4]string{3: "=@10#0"}},
	{"export * from './m'; print(1); export * from './n'; export * as a from './m'; export * from './m';", [4]string{2: "a=*@12#3", 3: "=@10#0 =@11#2 =@13#4"}},
}

// 12.1: each kind of item, alone and among others.
func TestEntries(t *testing.T) {
	for _, s := range slices.Concat(importSamples, ownSamples, otherSamples) {
		n := read(t, s.source)
		if got := lists(Entries(n, numbered(n))); got != s.want {
			t.Errorf("%q:\ngot  %q\nwant %q", s.source, got, s.want)
		}
	}
}

// 12.1: the module is the Target of the request with that Item, whatever its text is; -1, if there is none; of several the first.
func TestEntriesRequests(t *testing.T) {
	n := read(t, "import { a } from './m'; export { a as b }; export { c } from './m'; export * from './m'; export * as d from './m'; export let e = 1;")
	for _, c := range []struct {
		requests []api.Request
		want     string
	}{
		{nil, "-1 -1 -1 -1 -1 -1"},
		{[]api.Request{}, "-1 -1 -1 -1 -1 -1"},
		{[]api.Request{{Item: 0, Target: 5}}, "5 -1 5 -1 -1 -1"},
		{[]api.Request{{Item: 4, Target: 1}, {Item: 3, Target: 2}, {Item: 2, Target: 3}, {Item: 0, Target: 4}}, "4 -1 4 3 1 2"},
		{[]api.Request{{Text: "./none", Type: true, Item: 0, Target: 0}, {Text: "", Item: 2, Target: 0}}, "0 -1 0 0 -1 -1"},
		// Of items without a request, and of none.
		{[]api.Request{{Item: 1, Target: 7}, {Item: 5, Target: 7}, {Item: 6, Target: 7}, {Item: -1, Target: 7}, {Item: math.MaxInt, Target: 7}, {Item: math.MinInt, Target: 7}}, "-1 -1 -1 -1 -1 -1"},
		{[]api.Request{{Item: 0, Target: 3}, {Item: 0, Target: 4}, {Item: 3, Target: 0}, {Item: 3, Target: 4}}, "3 -1 3 -1 -1 0"},
		{[]api.Request{{Item: 0, Target: -8}, {Item: 2, Target: math.MaxInt}, {Item: 3, Target: math.MinInt}, {Item: 4, Target: -1}}, fmt.Sprint("-8 -1 -8 ", math.MaxInt, " -1 ", math.MinInt)},
	} {
		e := Entries(n, c.requests)
		var got []string
		for _, one := range slices.Concat(e.Imports, e.Own, e.Others, e.Stars) {
			got = append(got, fmt.Sprint(one.Mod))
		}
		if s := strings.Join(got, " "); s != c.want {
			t.Errorf("%v: %s, want %s", c.requests, s, c.want)
		}
	}
	// A request of types alone is so by its item, not by what the list says.
	if e := Entries(n, []api.Request{{Item: 0, Type: true}, {Item: 2, Type: true}}); e.Imports[0].Type || e.Others[0].Type || e.Others[1].Type {
		t.Error(e)
	}
}

// isNone tells whether there are no entries of a tree, whatever is asked for.
func isNone(t *testing.T, n api.Node) {
	t.Helper()
	for _, l := range [][]api.Request{nil, {{Item: 0, Target: 1}}} {
		if got := lists(Entries(n, l)); got != [4]string{} {
			t.Errorf("%v: %q", n, got)
		}
	}
}

// 12.1: a tree that is no Module has none; nor has one that is a Module but for something in it.
func TestEntriesOfOthers(t *testing.T) {
	whole := read(t, "import d, { a as b } from './m'; import * as n from './m'; export { b, n, c as e }; export default class C { } export type T = b; export * from './m'; export * as q from './m'; export { z as w } from './m'; export let c = 1;")
	isNone(t, api.Node{})
	isNone(t, api.Node{Kind: -1})
	for kind := range 100 {
		other := tree.Copy(whole)
		other.Kind = kind
		if kind != api.Module {
			isNone(t, other)
			isNone(t, api.Node{Kind: kind, Kids: whole.Kids[2:3]})
		}
		isNone(t, api.Node{Kind: api.Module, Kids: []api.Node{{Kind: kind}, whole}})
	}
	for _, item := range whole.Kids {
		isNone(t, item)
	}
	script, _, err := module.Script("let a = 1; namespace n { a = a; }")
	if err != api.OK {
		t.Fatal(err)
	}
	isNone(t, script)
}

// R1: trees that are spoilt in one place have none, and are told so.
func TestEntriesOfSpoilt(t *testing.T) {
	whole := read(t, "import d, { a as b } from './m'; export { b, c as e }; export default class C { } export type T = b; export * from './m'; export * as q from './m'; export { z as w } from './m'; export let c = 1; export default 5;")
	spoilt := 0
	for at := range tree.Size(whole) {
		for _, spoil := range []func(*api.Node){
			func(n *api.Node) { n.Kids = nil },
			func(n *api.Node) { n.Kids = []api.Node{{}} },
			func(n *api.Node) { n.Text = "" },
			func(n *api.Node) { n.Text = "*" },
			func(n *api.Node) { n.N = 7 },
			func(n *api.Node) { n.Kind = api.ExportOne },
			func(n *api.Node) { n.Kind = api.ImportOne },
			func(n *api.Node) { n.Kind = api.Import },
			func(n *api.Node) { n.Kind = api.Export },
			func(n *api.Node) { n.Kind = api.Default },
			func(n *api.Node) { n.Kind = api.ExportFrom },
			func(n *api.Node) { n.Kind = api.None },
		} {
			n, _ := tree.At(whole, at)
			spoil(&n)
			m, _ := tree.Replace(whole, at, n)
			if tree.Form(m) != api.FormModule {
				spoilt++
				isNone(t, m)
			}
		}
	}
	if spoilt < 300 {
		t.Error("only", spoilt, "trees")
	}
}

package shake

import (
	"strings"
	"testing"

	"gusset/api"
	"gusset/pure"
)

// A lone item stands first in the entry, or in a module that the entry asks for: "yes", if it is a root there.
type lone struct {
	item, asEntry, asOther string
}

// behind is what the items may name.
const behind = " import { q } from './c'; function f() { } class D { } type U = number; let v = 1;"

// 20.1: each kind of item, as the first one of a module; nothing else of that module is a root.
func TestRootsOfKinds(t *testing.T) {
	for _, c := range []lone{
		{"print(1);", "yes", "yes"},
		{"q;", "yes", "yes"},
		{"1;", "", ""},
		{"[1, () => f()];", "", ""},
		{"if (true) { }", "yes", "yes"},
		{"while (false) { }", "yes", "yes"},
		{"throw 1;", "yes", "yes"},
		{"{ }", "yes", "yes"},
		{"let a = 1;", "", ""},
		{"const a = f();", "yes", "yes"},
		{"const a = q;", "yes", "yes"},
		{"const a: U = 1 + 1;", "yes", "yes"},
		{"const a = { b: !0 };", "", ""},
		{"function a() { f(); }", "", ""},
		{"class a { b = f(); constructor() { f(); } c() { f(); } }", "", ""},
		{"type a = U;", "", ""},
		{"import './c';", "", ""},
		{"import { q as a } from './c';", "", ""},
		{"export { q } from './c';", "", ""},
		{"export { q as a };", "", ""},
		{"export { U };", "", ""},
		{"export * from './c';", "", ""},
		{"export * as a from './c';", "", ""},
		{"export let a = 1;", "yes", ""},
		{"export const a = () => f();", "yes", ""},
		{"export let a = f();", "yes", "yes"},
		{"export function a() { }", "yes", ""},
		{"export class a { }", "yes", ""},
		{"export type a = U;", "", ""},
		{"export default 1;", "yes", ""},
		{"export default q;", "yes", "yes"},
		{"export default f();", "yes", "yes"},
		{"export default () => f();", "yes", ""},
		{"export default function a() { f(); }", "yes", ""},
		{"export default class a { b = f(); }", "yes", ""},
		{"let a = 1; export { a };", "yes", ""},
		{"let a = 1; export { a as b, a as default };", "yes", ""},
		{"let a = f(); export { a };", "yes", "yes"},
		{"function a() { } export { a };", "yes", ""},
		{"class a { } export { a };", "yes", ""},
		{"class a { } export type { a };", "", ""},
		{"class a { } export type { a }; export { a as b };", "yes", ""},
		{"type a = U; export { a };", "", ""},
		{"type a = U; export type { a as b };", "", ""},
	} {
		l := linked(t, c.item+behind, "", "export const r = 1; const q = 1; export { q };")
		if got := told(rootsOf(l, 0)); got != strings.ReplaceAll(c.asEntry, "yes", "0.0") {
			t.Errorf("%s: the entry's roots are %q", c.item, got)
		}
		l = linked(t, "import './b';", c.item+behind, "export const r = 1; const q = 1; export { q };")
		if got := told(rootsOf(l, 1)); got != strings.ReplaceAll(c.asOther, "yes", "1.0") {
			t.Errorf("%s: the roots of another module are %q", c.item, got)
		}
	}
}

// rootsOf are those of one module.
func rootsOf(l api.Linked, mod int) []api.Origin {
	var out []api.Origin
	for _, o := range Roots(l) {
		if o.Mod == mod {
			out = append(out, o)
		}
	}
	return out
}

// 20.1: what the entry's exports lead to, over each way; of other modules' exports nothing.
func TestRootsOfExports(t *testing.T) {
	const b = "export let x = 1; export class C { } export type T = number; let y = 1; export { y as z, y as default };"
	for _, s := range []sample{
		{of("export { x } from './b';", b), "1.0", "1.0", ""},
		{of("export { x as w } from './b';", b), "1.0", "1.0", ""},
		{of("export { z, default as w } from './b';", b), "1.3", "1.3", ""},
		{of("import { x } from './b'; export { x };", b), "1.0", "1.0", ""},
		{of("import d from './b'; export { d };", b), "1.3", "1.3", ""},
		{of("export * from './b';", b), "1.0 1.1 1.3", "1.0 1.1 1.3", ""},
		// The default comes through no star; its name z does.
		{of("export * from './b';", "export default 1;"), "", "", ""},
		{of("export { default } from './b';", "print(1); export default 1;"), "1.0 1.1", "1.0 1.1", ""},
		// The entry's own stands ahead of the star.
		{of("export * from './b'; export let x = 2;", b), "1.1 1.3 0.1", "1.1 1.3 0.1", ""},
		// A class as a type alone, and a type.
		{of("export type { C } from './b';", b), "", "", ""},
		{of("import type { C } from './b'; export { C };", b), "", "", ""},
		{of("import { C } from './b'; export type { C };", b), "", "", ""},
		{of("export { C } from './b';", b), "1.1", "1.1", ""},
		{of("export { T } from './b'; export type { T as U } from './b';", b), "", "", ""},
		// Over more modules.
		{of("export { w } from './b';", "export { x as w } from './c';", "export let x = 1; export let y = 2;"), "2.0", "2.0", ""},
		{of("export * from './b';", "export * from './c'; export let x = 3;", "export let x = 1; export let y = 2;"), "2.1 1.1", "2.1 1.1", ""},
		// Two ways to one binding; two bindings of one name, which is left out.
		{of("export * from './b'; export * from './c';", "export * from './d';", "export * from './d';", "export let x = 1;"), "2.0", "2.0", ""},
		{of("export * from './b'; export * from './c';", "export let x = 1; export let y = 1;", "export let x = 1; export let z = 1;"), "1.1 2.1", "1.1 2.1", ""},
		// In a circle.
		{of("export * from './b'; export let y = 1;", "export * from './a'; export let x = 1;"), "1.1 0.1", "1.1 0.1", ""},
		{of("import './b'; export let y = 1;", "import { y } from './a'; export { y };"), "0.1", "0.1", ""},
		// Namespaces are no items.
		{of("export * as n from './b';", b), "", "1.0 1.1 1.3", "1"},
		{of("import * as n from './b'; export { n };", b), "", "1.0 1.1 1.3", "1"},
		// What is exported twice, or not pure either, is a root once.
		{of("let x = f(); export { x, x as y, x as default }; function f() { }"), "0.0", "0.0 0.2", ""},
		// The exports of others that nobody asks for.
		{of("import './b';", b), "", "", ""},
		{of("import { x, C } from './b'; import * as n from './b'; let u: C = [];", b), "", "", ""},
	} {
		s.hold(t)
	}
}

// 20.1: of modules that are asked for their types alone nothing is a root, whatever stands there; of others that they ask for nothing, too.
func TestRootsOfEvaluated(t *testing.T) {
	const b = "import './c'; export type T = number; export class C { } print(1); export let x = f(); function f() { }"
	for _, s := range []sample{
		{of("import type { T } from './b';", b, "print(2);"), "", "", ""},
		{of("import type { T } from './b'; import './c';", b, "print(2);"), "2.0", "2.0", ""},
		{of("export type { C } from './b';", b, "print(2);"), "", "", ""},
		// What such a module does keeps nothing of others.
		{of("import type { T } from './b'; import './c';", "import { g } from './c'; import * as n from './c'; export type T = number; g(n);", "export function g() { } print(2);"), "2.1", "2.1", ""},
		{of("import type { T } from './b'; import './b';", b, "print(2);"), "2.0 1.3 1.4", "2.0 1.3 1.4 1.5", ""},
		{of("import { T } from './b';", b, "print(2);"), "2.0 1.3 1.4", "2.0 1.3 1.4 1.5", ""},
		{of("import type { T } from './b'; import { D } from './c';", b, "export { C as D } from './b'; import type { T } from './b';"), "1.3 1.4", "1.3 1.4 1.5", ""},
	} {
		s.hold(t)
	}
	l := linked(t, "import type { T } from './b';", b, "print(2);")
	if pure.Item(l.Graph.Mods[2].Tree.Kids[0]) {
		t.Error("/c has nothing that could be left out")
	}
}

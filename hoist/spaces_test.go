package hoist

import (
	"testing"

	"gusset/api"
	"gusset/show"
	"gusset/tree"
)

// 22.2: what stands in a namespace, and in which order.
func TestSpaceOnes(t *testing.T) {
	const use = "import * as n from './b'; print(n);"
	for _, s := range []sample{
		{of(use, ""), "namespace $1 { } print($1);", "1.* 0.1"},
		{of(use, "let x = 1; type T = number; export { T };"), "namespace $1 { } print($1);", "1.* 0.1"},
		// Byte by byte, not by items; the default and words too.
		{of(use, "export let b = 1; export let B = 2; export let _ = 3; let c = 4; export { c as a1, c as a, c as if }; export default 5;"),
			"namespace $1 { B = B$1; _ = _$1; a = c$1; a1 = c$1; b = b$1; default = default$1; if = c$1; } let b$1 = 1; let B$1 = 2; let _$1 = 3; let c$1 = 4; const default$1 = 5; print($1);",
			"1.* 1.0 1.1 1.2 1.3 1.5 0.1"},
		{of(use, "export default function f() { } export { f as g }; export class C { }"), "namespace $1 { C = C$1; default = f$1; g = f$1; } function f$1() { } class C$1 { } print($1);", "1.* 1.0 1.2 0.1"},
		// Types are left out, and what is given as a type alone.
		{of(use, "export type T = number; class C { } export type { C }; export let x = 1; export { T as U };"), "namespace $1 { x = x$1; } let x$1 = 1; print($1);", "1.* 1.3 0.1"},
		{of(use, "export type { C, C as D } from './c'; export { C as E } from './c'; export type T = number;", "export class C { }"), "namespace $1 { E = C$2; } class C$2 { } print($1);", "1.* 2.0 0.1"},
		{of(use, "import type { C } from './c'; import { C as D } from './c'; export { C, D };", "export class C { }"), "namespace $1 { D = C$2; } class C$2 { } print($1);", "1.* 2.0 0.1"},
		// By stars: no default, nothing ambiguous, its own ahead of theirs.
		{of(use, "export * from './c'; export * from './d'; export let x = 1;", "export let x = 2; export let y = 3; export let z = 4; export default 5;", "export let y = 6; export let w = 7; export type T = number;"),
			"namespace $1 { w = w$3; x = x$1; z = z$2; } let z$2 = 4; let w$3 = 7; let x$1 = 1; print($1);", "1.* 2.2 3.1 1.2 0.1"},
		// Two ways to one binding, and a circle of stars.
		{of(use, "export * from './c'; export * from './d';", "export * from './d';", "export * from './c'; export let x = 1;"), "namespace $1 { x = x$3; } let x$3 = 1; print($1);", "1.* 3.1 0.1"},
		// Of two ways to a class one is of types alone: the first one tells, as the second one asks again.
		{of(use, "export * from './c'; export * from './d';", "export { C } from './e';", "export type { C } from './e';", "export class C { }"), "namespace $1 { C = C$3; } class C$3 { } print($1);", "1.* 3.0 0.1"},
		{of(use, "export * from './d'; export * from './c';", "export { C } from './e';", "export type { C } from './e';", "export class C { }"), "namespace $1 { } print($1);", "1.* 0.1"},
		// What others give under other names.
		{of(use, "export { x as y, default as d } from './c'; import e, { x } from './c'; export { x, e };", "export let x = 1; export default 2;"),
			"namespace $1 { d = default$2; e = default$2; x = x$2; y = x$2; } let x$2 = 1; const default$2 = 2; print($1);", "1.* 2.0 2.1 0.1"},
	} {
		s.hold(t)
	}
}

// 22.2: namespaces within namespaces.
func TestSpacesOfSpaces(t *testing.T) {
	const use = "import * as n from './b'; print(n);"
	for _, s := range []sample{
		{of(use, "export * as m from './c'; export let x = 1;", "export let y = 2;"), "namespace $1 { m = $2; x = x$1; } namespace $2 { y = y$2; } let y$2 = 2; let x$1 = 1; print($1);", "1.* 2.* 2.0 1.1 0.1"},
		{of(use, "import * as m from './c'; export { m as o, m };", "import * as k from './b'; export { k };"), "namespace $1 { m = $2; o = $2; } namespace $2 { k = $1; } print($1);", "1.* 2.* 0.1"},
		{of(use, "export * as self from './b';"), "namespace $1 { self = $1; } print($1);", "1.* 0.1"},
		{of(use, "export * from './c';", "export * as m from './d';", "export let x = 1;"), "namespace $1 { m = $3; } namespace $3 { x = x$3; } let x$3 = 1; print($1);", "1.* 3.* 3.0 0.1"},
		// A way through namespaces needs none of them; a way to one needs that alone.
		{of("import * as n from './b'; print(n.m.x);", "export * as m from './c'; print(1);", "export let x = 1;"), "let x$2 = 1; print(1); print(x$2);", "2.0 1.1 0.1"},
		{of("import * as n from './b'; print(n.m);", "export * as m from './c'; export let y = 1;", "export let x = 1;"), "namespace $2 { x = x$2; } let x$2 = 1; print($2);", "2.* 2.0 0.1"},
	} {
		s.hold(t)
	}
}

// 22.2: for which modules there is one, in the order of their numbers, not of evaluation.
func TestWhichSpaces(t *testing.T) {
	for _, s := range []sample{
		{of("import * as a from './b'; import * as b from './c'; print(b, a);", "import './c'; export let x = 1;", "export let x = 2;"),
			"namespace $1 { x = x$1; } namespace $2 { x = x$2; } let x$2 = 2; let x$1 = 1; print($2, $1);", "1.* 2.* 2.0 1.1 0.2"},
		{of("import { f } from './b'; f();", "import * as me from './b'; export function f() { return me; }"), "namespace $1 { f = f$1; } function f$1() { return $1; } f$1();", "1.* 1.1 0.1"},
		{of("import './b'; export let x = 1;", "import * as a from './a'; print(a);"), "namespace $0 { x = x$0; } print($0); let x$0 = 1;", "0.* 1.1 0.1"},
		// The entry exports it, by a name of its own or by a star.
		{of("export * as n from './b';", "export let x = 1;"), "namespace $1 { x = x$1; } let x$1 = 1;", "1.* 1.0"},
		{of("export * from './b';", "import * as n from './c'; export { n as default, n };", "export let x = 1;"), "namespace $2 { x = x$2; } let x$2 = 1;", "2.* 2.0"},
		// Nobody needs it.
		{of("import * as n from './b'; print(1); let m = n;", "export let x = 1;"), "namespace $1 { x = x$1; } let x$1 = 1; print(1); let m$0 = $1;", "1.* 1.0 0.1 0.2"},
		{of("import * as n from './b'; print(1); let m = () => n;", "export let x = 1;"), "print(1);", "0.1"},
		{of("import * as n from './b'; print(n.x);", "export * as o from './b'; export let x = 1;"), "let x$1 = 1; print(x$1);", "1.1 0.1"},
		{of("import './b';", "export * as n from './c';", "export let x = 1;"), "", ""},
	} {
		s.hold(t)
	}
}

// 22.2: the lines of a bundle with two namespaces, as they are shown.
func TestSpacesShown(t *testing.T) {
	l := linked(t, "import * as n from './b'; print(n);", "export * as m from './c'; export default 1;", "type T = number;")
	script, _ := Bundle(l)
	want := "namespace $1 {\n  default = default$1;\n  m = $2;\n}\nnamespace $2 {}\nconst default$1 = 1;\nprint($1);\n"
	if got := show.Show(script); got != want {
		t.Errorf("%s\nwant\n%s", got, want)
	}
	one := api.Node{Kind: api.SpaceOne, Text: "m", Kids: []api.Node{{Kind: api.Name, Text: "$2"}}}
	if got := script.Kids[0].Kids[1]; !tree.Same(got, one) {
		t.Error(got)
	}
}

package rename

import (
	"math"
	"strings"
	"testing"

	"gusset/api"
)

// plain is a module whose exports the items of these tests ask for.
const plain = "export const x: number = 1; export let y = 2; export function f() { } export class C { } export default 3; export type T = number; class K { } export type { K };"

// 21.2: what has no image.
func TestNoImage(t *testing.T) {
	for _, source := range []string{
		"import './b';", "import d, { x } from './b';", "import * as n from './b';", "import type { T } from './b';", "import { } from './b';",
		"export { x } from './b';", "export * from './b';", "export * as n from './b';", "export type { T } from './b';", "let a = 1; export { a };", "import { x } from './b'; export { x as y };",
		"type U = number;", "export type U = number;", "import { T } from './b'; export type U = T[];",
	} {
		holdLast(t, none, source, plain)
	}
	l := linked(t, "print(1); import './b';", plain)
	for _, mod := range []int{math.MinInt, -1, 2, 3, math.MaxInt} {
		hold(t, l, mod, 0, none)
	}
	for _, item := range []int{math.MinInt, -1, 2, 3, math.MaxInt} {
		hold(t, l, 0, item, none)
	}
	hold(t, linked(t, ""), 0, 0, none)
	hold(t, api.Linked{}, 0, 0, none)
}

// 21.2: an Export is what it holds, a Default likewise or a const.
func TestHeld(t *testing.T) {
	for source, want := range map[string]string{
		"let a = 1;":                             "let a$0 = 1;",
		"const a = 1;":                           "const a$0 = 1;",
		"export let a = 1;":                      "let a$0 = 1;",
		"export const a = 1;":                    "const a$0 = 1;",
		"function g() { }":                       "function g$0() {}",
		"export function g() { }":                "function g$0() {}",
		"export default function g() { }":        "function g$0() {}",
		"class D { }":                            "class D$0 {}",
		"export class D { }":                     "class D$0 {}",
		"export default class D { }":             "class D$0 {}",
		"export default 5;":                      "const default$0 = 5;",
		"export default (1 ? { } : null);":       "const default$0 = 1 ? {} : null;",
		"export default () => 1;":                "const default$0 = function () {\n  return 1;\n};",
		"export default (function () { });":      "const default$0 = function () {};",
		"export default ({ a: 1 });":             "const default$0 = { a: 1 };",
		"let q = 1; export default q;":           "const default$0 = q$0;",
		"let q = 1; export default { q };":       "const default$0 = { q: q$0 };",
		"let q = 1; export default q = 2;":       "const default$0 = q$0 = 2;",
		"class D { } export default new D();":    "const default$0 = new D$0();",
		"class D { } export default D;":          "const default$0 = D$0;",
		"import e from './b'; export default e;": "const default$0 = default$1;",
		"export let constructor = 1;":            "let constructor$0 = 1;",
		"let type = 1;":                          "let type$0 = 1;",
		"let ä = 1;":                             "let ä$0 = 1;",
		"print(1);":                              "print(1);",
		"1;":                                     "1;",
		"{ }":                                    "{}",
		"if (true) { } else { 1; }":              "if (true) {} else {\n  1;\n}",
		"while (false) { print(1); }":            "while (false) {\n  print(1);\n}",
		"throw 1;":                               "throw 1;",
	} {
		holdLast(t, want, source, plain)
	}
}

// 21.2: every type goes, wherever it stands.
func TestTypes(t *testing.T) {
	for source, want := range map[string]string{
		"let a: number = 1;":                                       "let a$0 = 1;",
		"const a: any = 1;":                                        "const a$0 = 1;",
		"export let a: (number | string)[] = [];":                  "let a$0 = [];",
		"let a: { b: number; c: { d: null; }; } = 1;":              "let a$0 = 1;",
		"let a: (b: number, c: () => any) => undefined = 1;":       "let a$0 = 1;",
		"{ let a: number = 1; const b: string = 2; }":              "{\n  let a = 1;\n  const b = 2;\n}",
		"function g(a: number, b, c: any): string { }":             "function g$0(a, b, c) {}",
		"{ function g(a: number): null { let b: any = 1; } }":      "{\n  function g(a) {\n    let b = 1;\n  }\n}",
		"export default (a: number) => a;":                         "const default$0 = function (a) {\n  return a;\n};",
		"print(function (a: number[], b): any { });":               "print(function (a, b) {});",
		"print((a: number, b: () => any) => { let c: any = a; });": "print(function (a, b) {\n  let c = a;\n});",
		"class D { a: number = 1; b = 2; constructor(c: any, d) { let e: any = 1; } m(f: D): D { } k() { } }": "class D$0 {\n  a = 1;\n  b = 2;\n  constructor(c, d) {\n    let e = 1;\n  }\n  m(f) {}\n  k() {}\n}",
		"export class D { a: D | null = null; m(): D { return new D(); } }":                                   "class D$0 {\n  a = null;\n  m() {\n    return new D$0();\n  }\n}",
		"type U = number; let a: U = 1;":                                                                  "let a$0 = 1;",
		"import { C, T } from './b'; const a: C | T[] = new C();":                                         "const a$0 = new C$1();",
		"import type { K, T } from './b'; function g(a: K): T { return a; }":                              "function g$0(a) {\n  return a;\n}",
		"if (true) { let a: any = 1; } else { while (true) { let b: any = () => { let c: any = 1; }; } }": "if (true) {\n  let a = 1;\n} else {\n  while (true) {\n    let b = function () {\n      let c = 1;\n    };\n  }\n}",
	} {
		holdLast(t, want, source, plain)
	}
}

// 21.2: uses of the module's own tops and of imports; local names, builtins, names of members and properties stay.
func TestUses(t *testing.T) {
	for source, want := range map[string]string{
		"let a = 1; a;": "a$0;",
		"let a = 1; [a, a + a, -a, a ? a : a, a && !a];": "[a$0, a$0 + a$0, -a$0, a$0 ? a$0 : a$0, a$0 && !a$0];",
		"let a = 1; a = a;":                     "a$0 = a$0;",
		"let a = 1; a.a.a = a[a];":              "a$0.a.a = a$0[a$0];",
		"let a = 1; a(a).a(a);":                 "a$0(a$0).a(a$0);",
		"let a = 1; ({ a });":                   "({ a: a$0 });",
		"let a = 1; ({ a: 1 }).a;":              "({ a: 1 }.a);",
		"let a = a;":                            "let a$0 = a$0;",
		"const a = () => a;":                    "const a$0 = function () {\n  return a$0;\n};",
		"function g(g) { return g; }":           "function g$0(g) {\n  return g;\n}",
		"function g() { return g; }":            "function g$0() {\n  return g$0;\n}",
		"function g() { let g = 1; return g; }": "function g$0() {\n  let g = 1;\n  return g;\n}",
		"class D { D = D; m(D) { return D; } k() { return [D, new D(), this.D]; } }": "class D$0 {\n  D = D$0;\n  m(D) {\n    return D;\n  }\n  k() {\n    return [D$0, new D$0(), this.D];\n  }\n}",
		"let a = 1; { let a = 2; a; { a = 3; } } ":                                   "{\n  let a = 2;\n  a;\n  {\n    a = 3;\n  }\n}",
		"let a = 1; { a; { let a = 2; a; } a; }":                                     "{\n  a$0;\n  {\n    let a = 2;\n    a;\n  }\n  a$0;\n}",
		"let a = 1; { a; let b = a; function c(d) { return [a, b, c, d]; } }":        "{\n  a$0;\n  let b = a$0;\n  function c(d) {\n    return [a$0, b, c, d];\n  }\n}",
		"let a = 1; if (a) { a; } else { throw a; }":                                 "if (a$0) {\n  a$0;\n} else {\n  throw a$0;\n}",
		"let a = 1; while (a) { a = a - 1; }":                                        "while (a$0) {\n  a$0 = a$0 - 1;\n}",
		"print(read(), text(parse('1')), push([], print));":                          `print(read(), text(parse("1")), push([], print));`,
		"let print = 1; print(read);":                                                "print$0(read);",
		"import { x as print } from './b'; print(read);":                             "x$1(read);",
		"import { x } from './b'; x + x.x;":                                          "x$1 + x$1.x;",
		"import { x as q, y, f } from './b'; f(q, y).y;":                             "f$1(x$1, y$1).y;",
		"import d, { default as e } from './b'; [d, e];":                             "[default$1, default$1];",
		"import { C } from './b'; new C(new C(1), C);":                               "new C$1(new C$1(1), C$1);",
		"import { C as D } from './b'; class C { } [new C(), new D()];":              "[new C$0(), new C$1()];",
		"import { x } from './b'; { x; let y = x; }":                                 "{\n  x$1;\n  let y = x$1;\n}",
		"import { x } from './b'; { x; let x = 1; }":                                 "{\n  x;\n  let x = 1;\n}",
		"import { x } from './b'; (x) => { return x; };":                             "(function (x) {\n  return x;\n});",
		"import { x } from './b'; export let k = x;":                                 "let k$0 = x$1;",
		"import { x } from './b'; export default x;":                                 "const default$0 = x$1;",
		"late; let a = 1; late.a; let late = 1; late + a;":                           "late$0 + a$0;",
	} {
		holdLast(t, want, source, plain)
	}
}

// 21.2: the longest ways alone are names.
func TestWays(t *testing.T) {
	const b = plain + "export * as m from './b'; export * as o from './c'; import * as s from './c'; export { s as t }; export { z as w } from './c'; export * from './d';"
	const c = "export const z = 1; export * as b from './b'; export default () => 1; const constructor = 1; export { constructor };"
	const d = "export const u = 4; export * as v from './c'; export default 5;"
	for expr, want := range map[string]string{
		"n":                       "$1",
		"n.x":                     "x$1",
		"n.f()":                   "f$1()",
		"n.default":               "default$1",
		"n.T":                     "$1.T",
		"n.K":                     "$1.K",
		"n.nope":                  "$1.nope",
		"n.nope.x":                "$1.nope.x",
		"n.x.y":                   "x$1.y",
		"n.x.m.x":                 "x$1.m.x",
		"n['x']":                  `$1["x"]`,
		"n[n.x]":                  "$1[x$1]",
		"n.m":                     "$1",
		"n.m.m.m.x":               "x$1",
		"n.m.m.m":                 "$1",
		"n.m.nope":                "$1.nope",
		"n.m.T.x":                 "$1.T.x",
		"n.o":                     "$2",
		"n.o.z":                   "z$2",
		"n.o.x":                   "$2.x",
		"n.o.b.m.o.b.x":           "x$1",
		"n.o.default()":           "default$2()",
		"n.o.constructor":         "constructor$2",
		"n.t":                     "$2",
		"n.t.z.z":                 "z$2.z",
		"n.s":                     "$1.s",
		"n.w":                     "z$2",
		"n.z":                     "$1.z",
		"n.u":                     "u$3",
		"n.v.b.y.q":               "y$1.q",
		"n.x = 1":                 "x$1 = 1",
		"n.nope = n.y":            "$1.nope = y$1",
		"n['x'] = n":              `$1["x"] = $1`,
		"n.m.x.a = n.o.nope.z":    "x$1.a = $2.nope.z",
		"n.f(n.x, n).x":           "f$1(x$1, $1).x",
		"n().x":                   "$1().x",
		"(1 ? n : n.o).x":         "(1 ? $1 : $2).x",
		"(n && n.o).z":            "($1 && $2).z",
		"[n, n.x, { n, x: n.x }]": "[$1, x$1, { n: $1, x: x$1 }]",
		"typeof n.m.o":            "typeof $2",
		"-n.x + n.y * n.o.z":      "-x$1 + y$1 * z$2",
		"new n(n.x)":              "new $1(x$1)",
		"new n().x":               "new $1().x",
		"(n) => n.x":              "function (n) {\n  return n.x;\n}",
		"(x) => n.x":              "function (x) {\n  return x$1;\n}",
		"p":                       "$2",
		"p.b.o.z":                 "z$2",
		"x.m.x":                   "x$1.m.x",
	} {
		if strings.HasPrefix(want, "function") {
			want = "(" + want + ")"
		}
		holdLast(t, want+";", "import * as n from './b'; import { o as p, x } from './b'; ("+expr+");", b, c, d)
	}
	// A way is one wherever it stands.
	const head = "import * as n from './b'; "
	holdLast(t, "const k$0 = x$1;", head+"export const k: number = n.x;", b, c, d)
	holdLast(t, "const default$0 = x$1.q;", head+"export default n.x.q;", b, c, d)
	holdLast(t, "class D$0 {\n  a = x$1;\n  constructor(n) {\n    n.x;\n  }\n  m() {\n    return [$1, z$2];\n  }\n}", head+"class D { a: number = n.x; constructor(n: any) { n.x; } m() { return [n, n.o.z]; } }", b, c, d)
	holdLast(t, "while (x$1) {\n  throw y$1;\n}", head+"while (n.x) { throw n.y; }", b, c, d)
}

// 21.2: a name that leads to nothing, or to no value, ends a way; what a module exports of types alone, too.
func TestNamesThatLeadNowhere(t *testing.T) {
	sources := []string{
		"import * as n from './b'; [n.own.two]; [n.two]; [n.only]; [n.alias]; [n.deep.one]; [n.both]; [n.space.one];",
		"export * from './c'; export * from './d'; export * as own from './b';",
		"export const two = 1; class C { } export type { C as only }; export type alias = number; export * as deep from './e'; export { one as both } from './e'; export * from './f';",
		"export const two = 2; export { one as both } from './e';",
		"export const one = 1;",
		"export * from './c'; import * as q from './e'; export { q as space };",
	}
	l := linked(t, sources...)
	for item, want := range []string{none, "[$1.two];", "[$1.two];", "[$1.only];", "[$1.alias];", "[one$3];", "[one$3];", "[one$3];"} {
		hold(t, l, 0, item, want)
	}
}

// 21.2: an item of a module that is no entry, and of one with a number of two digits.
func TestOtherModules(t *testing.T) {
	sources := []string{""}
	for i := range 12 {
		sources[0] += "import './" + string(rune('b'+i)) + "'; "
		sources = append(sources, "import * as n from './"+string(rune('b'+(i+1)%12))+"'; import { x as y } from './a'; export const x: any = n; export let z = [n.x, x, y];")
	}
	sources[0] += "export let x = 1;"
	l := linked(t, sources...)
	for i := range 12 {
		here, next := i+1, (i+1)%12+1
		hold(t, l, here, 2, "const "+Name(here, "x")+" = "+Space(next)+";")
		hold(t, l, here, 3, "let "+Name(here, "z")+" = ["+Name(next, "x")+", "+Name(here, "x")+", x$0];")
	}
	hold(t, l, 0, 12, "let x$0 = 1;")
}

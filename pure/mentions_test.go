package pure

import (
	"math"
	"strings"
	"testing"

	"gusset/api"
)

// 19.3: uses of the module's own tops, of imports, and of what is neither.
func TestMentions(t *testing.T) {
	const b = "export const x = 1; export let y = 2; export function f() { } export class C { } export default 3; export type T = number;"
	for source, want := range map[string]string{
		"1;":                                  "",
		"let a = 1; a;":                       "0.a",
		"let a = 1; a + a * a;":               "0.a",
		"let a = 1; let b = 2; [b, a, b];":    "0.a 0.b",
		"function f() { return f; }":          "0.f",
		"class C { x = C; m() { new C(); } }": "0.C",
		"const a = () => a;":                  "0.a",
		"let a = a;":                          "0.a",
		"const a = 1;":                        "",
		"export const a = 1;":                 "",
		"let q = 1; export const a = q;":      "0.q",
		"let q = 1; export default q;":        "0.q",
		"let q = 1; export default function f() { q; f(); }": "0.f 0.q",
		"let q = 1; export default class C { x = q; }":       "0.q",
		"let q = 1; q = 2;":                                             "0.q",
		"let q = 1; { let q = 2; q; }":                                  "",
		"let q = 1; function f(q) { q; }":                               "",
		"let q = 1; function f(p) { p; q; { let q = 2; } }":             "0.q",
		"let q = 1; (q) => q;":                                          "",
		"class C { } new C();":                                          "0.C",
		"class C { } let x: C = 1;":                                     "",
		"class C { } let x: C = new C();":                               "0.C",
		"class C { } type T = C;":                                       "",
		"class C { } (a: C, b: C[]) => 1;":                              "",
		"print(1); read(); push([], text(parse('1')));":                 "",
		"print(print);":                                                 "",
		"let print = 1; print;":                                         "0.print",
		"let a = 1; ({ a });":                                           "0.a",
		"let a = 1; ({ a: 1 }).a;":                                      "",
		"let a = 1; a.a.a;":                                             "0.a",
		"let a = 1; a[a](a).b = a;":                                     "0.a",
		"let a = 1; let b = 2; a ? a : b;":                              "0.a 0.b",
		"let a = 1; let b = 2; let c = 3; if (a) { b; } else { c; }":    "0.a 0.b 0.c",
		"let a = 1; let b = 2; while (a) { throw b; }":                  "0.a 0.b",
		"let a = 1; let b = 2; export function g() { return a && !b; }": "0.a 0.b",
		"let a = 1; class C { constructor(p) { a; } }":                  "0.a",
		"let a = 1; export { a };":                                      "",
		"let a = 1; export { a as b };":                                 "",
		"class C { } export type { C };":                                "",
		"import { x } from './b';":                                      "",
		"import { x } from './b'; x;":                                   "1.x",
		"import { x as z } from './b'; z;":                              "1.x",
		"import d from './b'; d;":                                       "1.default",
		"import { default as d } from './b'; d;":                        "1.default",
		"import { x, y } from './b'; y + x;":                            "1.x 1.y",
		"import { x, x as z } from './b'; [x, z];":                      "1.x",
		"import { C } from './b'; new C();":                             "1.C",
		"import { C } from './b'; let c: C = 1;":                        "",
		"import { T } from './b'; let c: T = 1;":                        "",
		"import type { C } from './b'; let c: C = 1;":                   "",
		"import { x } from './b'; export { x };":                        "",
		"import * as n from './b'; export { n };":                       "",
		"import { x } from './b'; let x1 = 1; x1 + x;":                  "0.x1 1.x",
		"import { x } from './b'; x.y.f;":                               "1.x",
		"import { x } from './b'; (x) => x;":                            "",
		"export { x } from './b';":                                      "",
		"export * from './b';":                                          "",
		"import './b';":                                                 "",
	} {
		lastMentions(t, want, source, b)
	}
	// A use ahead of the declaration is one as well.
	mentions(t, linked(t, "late; let late = 1;"), 0, 0, "0.late")
}

// 19.2: ways of namespaces, the longest ones alone.
func TestWaysOfNamespaces(t *testing.T) {
	const b = "export const x = 1; export let y = 2; export function f() { } export class C { } export default 3; export type T = number; class K { } export type { K };" +
		"export * as m from './b'; export * as o from './c'; import * as s from './c'; export { s as t }; export { z } from './c'; export { z as w } from './c'; export * from './d';"
	const c = "export const z = 1; export * as b from './b'; export default () => 1; const constructor = 1; export { constructor };"
	const d = "export const x = 3; export const u = 4; export * as v from './c'; export default 5;"
	for expr, want := range map[string]string{
		"n":                                  "1.*",
		"n.x":                                "1.x",
		"n.y":                                "1.y",
		"n.f()":                              "1.f",
		"n.C":                                "1.C",
		"n.default":                          "1.default",
		"n.T":                                "1.*",
		"n.K":                                "1.*",
		"n.nope":                             "1.*",
		"n.nope.x":                           "1.*",
		"n.x.y":                              "1.x",
		"n.x.m.x":                            "1.x",
		"n.x.length":                         "1.x",
		"n['x']":                             "1.*",
		"n[n.x]":                             "1.x 1.*",
		"n.m":                                "1.*",
		"n.m.x":                              "1.x",
		"n.m.m.m.x":                          "1.x",
		"n.m.m.m":                            "1.*",
		"n.m.nope":                           "1.*",
		"n.m.T.x":                            "1.*",
		"n.o":                                "2.*",
		"n.o.z":                              "2.z",
		"n.o.nope":                           "2.*",
		"n.o.x":                              "2.*",
		"n.o.b.m.o.b.x":                      "1.x",
		"n.o.b.o":                            "2.*",
		"n.o.default":                        "2.default",
		"n.o.default()":                      "2.default",
		"n.o.constructor":                    "2.constructor",
		"n.t":                                "2.*",
		"n.t.z.z":                            "2.z",
		"n.s":                                "1.*",
		"n.z":                                "2.z",
		"n.w":                                "2.z",
		"n.u":                                "3.u",
		"n.v":                                "2.*",
		"n.v.z":                              "2.z",
		"n.v.b.y.q":                          "1.y",
		"n.x + n.y":                          "1.x 1.y",
		"[n.y, n.x, n.y, n.m.x]":             "1.x 1.y",
		"[n, n.x]":                           "1.x 1.*",
		"[n.o, n]":                           "1.* 2.*",
		"[n.o.z, n.o, n.x, n]":               "1.x 2.z 1.* 2.*",
		"({ n })":                            "1.*",
		"({ n: 1 }).n":                       "",
		"({ n: n.x }).n":                     "1.x",
		"({ n: n.x }).n.m":                   "1.x",
		"typeof n":                           "1.*",
		"typeof n.x":                         "1.x",
		"!n.o":                               "2.*",
		"n === n.m":                          "1.*",
		"n.x = 1":                            "1.x",
		"n.nope = 1":                         "1.*",
		"n['x'] = n.y":                       "1.y 1.*",
		"n.x.a = n.y":                        "1.x 1.y",
		"n.f(n.x, n)":                        "1.f 1.x 1.*",
		"n.f().x":                            "1.f",
		"n().x":                              "1.*",
		"(1 ? n : n).x":                      "1.*",
		"(1 && n).x":                         "1.*",
		"[n][0].x":                           "1.*",
		"new n()":                            "1.*",
		"new n().x":                          "1.*",
		"new n(n.x)":                         "1.x 1.*",
		"new p(n.x)":                         "1.C 1.x",
		"() => n.x":                          "1.x",
		"() => n":                            "1.*",
		"(n) => n.x":                         "",
		"(n) => n":                           "",
		"(m) => n.m.x":                       "1.x",
		"() => { let n = 1; return n.x; }":   "",
		"() => { { let n = 1; } n.x; }":      "1.x",
		"() => { n.x; { let n = 1; n.y; } }": "1.x",
		"function () { return this_.n.x; }":  "0.this_",
		"this_.n.x":                          "0.this_",
		"q":                                  "2.*",
		"q.z":                                "2.z",
		"q.b.x":                              "1.x",
		"q.b":                                "1.*",
		"q.nope":                             "2.*",
		"q.x":                                "2.*",
		"self":                               "0.*",
		"self.this_":                         "0.this_",
		"self.n":                             "1.*",
		"self.n.x":                           "1.x",
		"self.p":                             "1.C",
		"self.self":                          "0.*",
		"self.self.self.n.o.b.y":             "1.y",
		"self.hidden":                        "0.*",
		"p":                                  "1.C",
		"p.x":                                "1.C",
		"p.m.x":                              "1.C",
		"print(n.x)":                         "1.x",
		"print(n)":                           "1.*",
		"print(n.nope)":                      "1.*",
		"print.x":                            "",
	} {
		const a = "import * as n from './b'; import { o as q, C as p } from './b'; import * as self from './a'; let this_ = 1; let hidden = 1; export { this_, n, p, self }; ("
		lastMentions(t, want, a+expr+");", b, c, d)
	}
}

// 19.2: ways begin and end in every kind of place.
func TestPlacesOfWays(t *testing.T) {
	const b = "export const x = 1; export const y = 2; export * as m from './b';"
	for _, place := range []string{
		"let a = #;", "const a: T = #;", "export let a = #;", "export default #;", "(#);", "if (#) { }", "if (1) { #; }", "if (1) { } else { #; }", "if (1) { } else if (#) { }", "while (#) { }", "while (1) { #; }", "throw #;", "{ #; }", "{ { let a = #; } }",
		"function g() { return #; }", "function g(a: T): T { #; }", "export function g() { #; }", "export default function g() { #; }", "class D { a = #; }", "class D { a: T = #; }", "class D { constructor(p: T) { #; } }", "class D { g() { #; } }", "export class D { a = 1; g(): T { #; } }", "export default class D { a = #; }",
		"[1, #];", "({ a: # });", "(() => #);", "(function () { #; });", "-#;", "!#;", "typeof #;", "# + 1;", "1 === #;", "1 && #;", "# || 1;", "# ? 1 : 2;", "1 ? # : 2;", "1 ? 2 : #;", "#();", "print(#);", "#.none;", "#.a.b;", "#[1];", "[][#];", "[][0] = #;", "({ }).a = #;", "#.none = 1;", "#[0] = 1;",
	} {
		for way, want := range map[string]string{"n": "1.*", "n.m": "1.*", "n.x": "1.x", "n.m.m.y": "1.y", "n.nope": "1.*"} {
			lastMentions(t, want, "import * as n from './b'; type T = any;"+strings.ReplaceAll(place, "#", way), b)
		}
	}
}

// 19.3: by Kind, then Mod, then Name, byte by byte.
func TestSorted(t *testing.T) {
	lastMentions(t, "0.A 0.Z 0._ 0.a 0.a1 0.a10 0.a2 0.aa 0.ä 1.A 1.B 1.default 2.A 0.* 1.* 2.*",
		"let a2 = 1; let ä = 1; let aa = 1; let Z = 1; let a10 = 1; let a = 1; let _ = 1; let a1 = 1; let A = 1;"+
			"import * as b from './b'; import * as c from './c'; import * as self from './a';"+
			"[c, self, b.B, b, c.A, b.default, b.A, ä, a, a10, _, aa, a2, Z, a1, A];",
		"import './c'; export let B = 1; export let A = 2; export default 3;", "export let A = 1;")
	l := linked(t, "import * as b from './b'; import * as c from './c'; [c, b, c, b, c.x];", "export let x = 1;", "")
	mentions(t, l, 0, 2, "1.* 2.*")
}

// 19.3: each item has its own mentions, wherever it stands in its module, in every module.
func TestEachItem(t *testing.T) {
	l := linked(t,
		"import * as n from './b'; export { y } from './b'; let q = n.x; type T = number; export { q }; q; function f(a: T) { q = n.m.y; } export default f; { } n;",
		"import { q } from './a'; export const x = q; export let y = x; export * as m from './b'; import * as a from './a'; print(a.q, a, a.default);")
	for item, want := range []string{"", "", "1.x", "", "", "0.q", "0.q 1.y", "0.f", "", "1.*"} {
		mentions(t, l, 0, item, want)
	}
	for item, want := range []string{"", "0.q", "1.x", "", "", "0.default 0.q 0.*"} {
		mentions(t, l, 1, item, want)
	}
}

// 19.3: nothing, if there is no such item.
func TestNoItem(t *testing.T) {
	l := linked(t, "import * as n from './b'; n;", "export let x = 1; x;")
	mentions(t, l, 0, 1, "1.*")
	mentions(t, l, 1, 1, "1.x")
	strange := []int{-1, -2, 2, 3, 64, math.MaxInt, math.MinInt}
	for _, one := range strange {
		for _, other := range append(strange, 0, 1) {
			mentions(t, l, one, other, "")
			mentions(t, l, other, one, "")
		}
	}
	mentions(t, api.Linked{}, 0, 0, "")
	mentions(t, linked(t, ""), 0, 0, "")
}

// 19.2: what a name of a namespace leads to may be ambiguous, circular or of types alone; then it is no way.
func TestNamesThatLeadNowhere(t *testing.T) {
	sources := []string{
		"import * as n from './b'; [n.own]; [n.two]; [n.round]; [n.only]; [n.alias]; [n.deep]; [n.both]; [n.space];",
		"export * from './c'; export * from './d'; export * as own from './b'; export const two2 = 1;",
		"export const two = 1; class C { } export type { C as only }; export type alias = number; export * as deep from './e'; export { one as both } from './e'; export * from './f';",
		"export const two = 2; export { one as both } from './e';",
		"export const one = 1;",
		"export * from './c'; import * as q from './e'; export { q as space };",
	}
	l := linked(t, sources...)
	for item, want := range []string{"", "1.*", "1.*", "1.*", "1.*", "1.*", "3.*", "3.one", "3.*"} {
		mentions(t, l, 0, item, want)
	}
}

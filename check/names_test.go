package check

import (
	"testing"

	"gusset/api"
)

// 18.1: the type of a Param, of a Let, of a local Function.
func TestLocalNames(t *testing.T) {
	isType(t, all("function f(a: number, b) { a; b; }"), "a", "number")
	isType(t, all("function f(a: number, b) { a; b; }"), "b", "any")
	isType(t, all("class C { constructor(a: C, b) { a; b; } }"), "a", "inst#0")
	isType(t, all("class C { constructor(a: C, b) { a; b; } }"), "b", "any")
	isType(t, all("class C { m(a: string) { a; } }"), "a", "string")
	isType(t, all("const f = (a: null) => a;"), "a", "null")
	isType(t, all("{ let x: number | null = 1; x; }"), "x", "number | null")
	isType(t, all("{ let x = 1; x; }"), "x", "number")
	isType(t, all("{ let x = 1; x = 2; { x; } }"), "x", "number")
	isType(t, all("{ function f(a: number, b): string { return ''; } f; }"), "f", "(number, any) => string")
	isType(t, all("{ f; function f(a: number, b) { } }"), "f", "(number, any) => any")
	isType(t, all("{ function f(a: () => null) { f; } }"), "f", "(() => null) => any")
	isType(t, all("function f(a: string) { { let a: number = 1; { let a = null; a; } } }"), "a", "null")
	isType(t, all("let a = ''; function f(a: number) { { a; } }"), "a", "number")
	isType(t, all("let print = 1; print;"), "print", "number")
	isType(t, all("function f(read: null) { read; }"), "read", "null")
}

// 18.1: of a Let without a type its expression's, if the whole Let stands ahead; else any.
func TestPlainLets(t *testing.T) {
	isType(t, all("const x = [1]; x;"), "x", "number[]")
	isType(t, all("export const x = [1]; x;"), "x", "number[]")
	isType(t, all("x; const x = [1];"), "x", "any")
	isType(t, all("function f() { x; } const x = 1;"), "x", "any")
	isType(t, all("const x = 1; function f() { x; }"), "x", "number")
	isType(t, all("const x = () => x;"), "x", "any")
	isType(t, all("const x = [1, x];"), "x", "any")
	isType(t, all("const x = [1, x]; x;"), "x", "any[]")
	isType(t, all("const x = { a: () => x }; x;"), "x", "{ a: () => any; }")
	isType(t, all("while (1) { x; let x = 1; }"), "x", "any")
	isType(t, all("{ { x; } let x = 1; }"), "x", "any")
	isType(t, all("{ let x = 1; { x; } }"), "x", "number")
	isType(t, all("x; let x: number = 1;"), "x", "number")
	isType(t, all("{ x; let x: number = 1; }"), "x", "number")
	isType(t, all("const a = 1; const b = a; const c = [b]; c;"), "c", "number[]")
	isType(t, all("const y: number | null = 1; if (y) { const x = y; x; }"), "x", "number")
	isType(t, all("let a = 1; const f = () => { a = 2; return a; }; a;"), "a", "number")
	isRefused(t, "let a = 1; a = '';", `a = ""`, api.ErrType)
	isWell(t, "function f() { a = ''; } let a = 1;")
	isRefused(t, "f.x; const f = 1; f.x;", "f.x", api.ErrType)
	l, s := linked(t, "f.x; const f = 1; f.x;")
	if _, at, _ := Check(l, s); at != placeOf(t, l, 0, "f.x") {
		t.Error("the first one is of any", at)
	}
}

// 18.1: tops, as Signs have them; this.
func TestTops(t *testing.T) {
	isType(t, all("f; function f(a: number) { }"), "f", "(number) => any")
	isType(t, all("export default function f(): null { return null; } f;"), "f", "() => null")
	isType(t, all("C; class A { } export class C { }"), "C", "class#1")
	isType(t, all("let x: string[] = []; x;"), "x", "string[]")
	isType(t, all("type T = number | U; type U = null; let x: T = 1; x;"), "x", "number | null")
	isType(t, all("class A { } class C { m() { return [() => this]; } }"), "this", "inst#1")
	isType(t, all("class A { } class C { constructor() { this; } }"), "this", "inst#1")
	isType(t, all("import './b'; class A { m() { this.n(); } n() { } }", "class B { }"), "this", "inst#0")
	isRefused(t, "class A { m() { this.n(); } }", "this.n", api.ErrType)
	isRefused(t, "class A { x: number = 1; m() { this.x = ''; } }", `this.x = ""`, api.ErrType)
	isWell(t, "class A { x = 1; m() { this.x = ''; this.n(1)(2); } n(a) { } }")
}

// 18.1: imports and members of namespaces, by what they lead to.
func TestImports(t *testing.T) {
	const b = "export const num: number = 1; export let raw = 1; export function fun(a: string): null { return null; } export class C { constructor(a: C | null) { } } export type T = number; export default 5;" +
		" export * from './c'; export * as deep from './c'; export { inner as outer } from './c';"
	const c = "export const star: string[] = []; export const inner: boolean = true; export { num as back } from './b'; export default function def(): string { return ''; }"
	for _, x := range [][3]string{
		{"num", "num", "number"}, {"raw", "raw", "any"}, {"fun", "fun", "(string) => null"}, {"C", "C", "class#0"}, {"star", "star", "string[]"}, {"outer", "outer", "boolean"}, {"back", "back", "number"}, {"deep", "deep", "space#2"},
		{"default as d", "d", "any"}, {"num as other", "other", "number"}, {"deep as n", "n.star", "string[]"}, {"deep", "deep.default", "() => string"}, {"deep", "deep.back", "number"}, {"C", "new C(null)", "inst#0"},
	} {
		isType(t, all("import { "+x[0]+" } from './b'; "+x[1]+";", b, c), x[1], x[2])
	}
	isType(t, all("import d from './c'; d;", b, c), "d", "() => string")
	for _, x := range [][2]string{
		{"n", "space#1"}, {"n.num", "number"}, {"n.raw", "any"}, {"n.fun", "(string) => null"}, {"n.C", "class#0"}, {"n.default", "any"}, {"n.star", "string[]"}, {"n.deep", "space#2"}, {"n.deep.star", "string[]"},
		{"n.deep.default", "() => string"}, {"n.outer", "boolean"}, {"n.fun(n.star[0])", "null"}, {"[n]", "space#1[]"},
	} {
		isType(t, all("import * as n from './b'; ("+x[0]+");", b, c), x[0], x[1])
	}
	for _, x := range [][2]string{
		{"n.nope", "n.nope"}, {"n.T", "n.T"}, {"n.def", "n.def"}, {"n.deep.nope", "n.deep.nope"}, {"n.length", "n.length"}, {"n.nope = 1", "n.nope"}, {"n.num = 1", "n.num = 1"}, {"n.raw = 1", "n.raw = 1"},
		{"n[0]", "n[0]"}, {"n()", "n()"}, {"n.num()", "n.num()"}, {"(1 ? n : n.deep).star", "(1 ? n : n.deep).star"}, {"n.fun(1)", "1"}, {"new n()", "new n()"},
	} {
		isRefusedAt(t, all("import * as n from './b'; ("+x[0]+");", b, c), 0, x[1], api.ErrType)
	}
	isWell(t, "import * as n from './b'; const m = n; const o = { n }; o.n.num - m.num; const f = () => n; f().num;", b, c)
	isRefusedAt(t, all("import { C } from './b'; new C(1);", b, c), 0, "1", api.ErrType)
	isRefusedAt(t, all("import { C } from './b'; new C();", b, c), 0, "new C()", api.ErrType)
	// What is of types alone is no value.
	isRefusedAt(t, all("import * as n from './b'; n.C;", "class C { } export type { C };"), 0, "n.C", api.ErrType)
	// Two stars with a name each, and a circle, lead to nothing.
	isRefusedAt(t, all("import * as n from './b'; n.x;", "export * from './c'; export * from './d';", "export const x: number = 1;", "export const x: number = 1;"), 0, "n.x", api.ErrType)
	isRefusedAt(t, all("import * as n from './b'; n.x;", "export * from './c';", "export * from './b';"), 0, "n.x", api.ErrType)
	// A module may ask for itself: then Signs tell, not the Let.
	isType(t, all("export const x = 1; import * as me from './a'; me.x;"), "me.x", "any")
	isType(t, all("export const x: number = 1; import { x as y } from './a'; y;"), "y", "number")
	isType(t, all("import { C } from './b'; let c: C = new C(); c;", "class A { } export class C { }"), "c", "inst#1")
	isType(t, all("import type { T } from './b'; let c: T[] = []; c;", "export type T = { a: U; }; type U = null;"), "c", "{ a: null; }[]")
}

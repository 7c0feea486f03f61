package check

import (
	"strings"
	"testing"

	"gusset/api"
)

// 18.1: where the facts of a condition hold.
func TestFacts(t *testing.T) {
	const x = "const x: number | string | null = 1; let i = 0; "
	for _, c := range [][2]string{
		{"if (typeof x === 'number') { x; }", "number"},
		{"if (typeof x === 'number') { } else { x; }", "string | null"},
		{"if (typeof x !== 'number') { } else { x; }", "number"},
		{"if (typeof x === 'number') { 1; } else { i; { x; } }", "string | null"},
		{"if (typeof x === 'number') { } x;", "number | string | null"},
		{"if (x === null) { return; } x;", "number | string"},
		{"if (x === null) { throw 1; } x;", "number | string"},
		{"if (x === null) { 1; return 1; } i; { x; }", "number | string"},
		{"if (x === null) { return 1; i; } x;", "number | string | null"},
		{"if (x === null) { { return; } } x;", "number | string | null"},
		{"if (x === null) { if (1) { return; } } x;", "number | string | null"},
		{"if (x === null) { while (1) { return; } } x;", "number | string | null"},
		{"if (x === null) { return; } else { i; } x;", "number | string"},
		{"if (x === null) { } else { return; } x;", "null"},
		{"if (x === null) { i; } else { i; throw 1; } x;", "null"},
		{"if (x === null) { } else if (typeof x === 'number') { x; }", "number"},
		{"if (x === null) { } else if (1) { return; } x;", "number | string | null"},
		// Those with false stand ahead: what they leave is not taken away.
		{"if (x === null) { return; } else { return; } x;", "number | string"},
		{"{ if (x === null) { return; } } x;", "number | string | null"},
		{"{ if (x === null) { return; } x; }", "number | string"},
		{"while (x !== null) { x; }", "number | string"},
		{"while (x !== null) { } x;", "number | string | null"},
		{"while (x === null) { return; } x;", "number | string | null"},
		{"while (x) { if (typeof x === 'string') { return; } x; }", "number"},
		{"x ? x : 1;", "number | string"},
		{"x === null ? 1 : x;", "number | string"},
		{"x === null ? 1 : 2; x;", "number | string | null"},
		{"x === null && x;", "null"},
		{"x === null || x;", "number | string"},
		{"(x === null && 1) || x;", "number | string | null"},
		{"(x === null || typeof x === 'number') || x;", "string"},
		{"x && (typeof x === 'number' || x);", "string"},
		{"!(x === null || typeof x === 'number') && x;", "string"},
		{"!x || x;", "number | string"},
		{"if (x !== null && typeof x !== 'number') { x; }", "string"},
		{"if (x === null || typeof x === 'number') { return; } x;", "string"},
		{"if (x === null) { return; } if (typeof x === 'number') { return; } x;", "string"},
		{"if (x) { if (typeof x === 'number') { x; } }", "number"},
		{"if (null === x) { x; }", "null"},
		{"if ('string' === typeof x) { x; }", "string"},
		{"if (x === undefined) { x; }", "number | string | null"},
		{"if (typeof x === 'object') { x; }", "null"},
		// A condition within a condition is one of its own.
		{"if (x === null ? 1 : 2) { x; }", "number | string | null"},
		{"if ((x === null) === true) { x; }", "number | string | null"},
		// Within functions, too.
		{"if (x !== null) { const f = () => x; }", "number | string"},
		{"if (x === null) { return; } function f() { return () => x; }", "number | string"},
		{"function f() { return () => x; } if (x === null) { return; }", "number | string | null"},
		{"x === null || (() => { if (typeof x === 'number') { return 1; } return x; })();", "string"},
		// The condition itself is outside, and so is what stands ahead.
		{"if (typeof x === 'number' && (i || x)) { }", "number"},
		{"const y = [x]; if (x === null) { return; }", "number | string | null"},
		// Arguments, members, elements and all else stand where the facts hold.
		{"if (x !== null) { print([{ a: -1 + (i ? 1 : 2), b: x }][0].b); }", "number | string"},
		{"if (x !== null) { let y = x; while (1) { throw x; } }", "number | string"},
	} {
		isType(t, all("function g() { "+x+c[0]+" }"), "x", c[1])
		if !strings.Contains(strings.ReplaceAll(c[0], "=> {", ""), "return") {
			isType(t, all(x+c[0]), "x", c[1])
		}
	}
	// Items that follow an If.
	isType(t, all(x+"if (x === null) { throw 1; } export class C { m() { return x; } }"), "x", "number | string")
	isType(t, all(x+"if (x === null) { throw 1; } export default x;"), "x", "number | string")
	isType(t, all(x+"if (x === null) { throw 1; } export const y = x;"), "x", "number | string")
	isType(t, all(x+"if (x === null) { throw 1; } class C { y: any = x; }"), "x", "number | string")
	isType(t, all(x+"if (x === null) { } else { throw 1; } export function f() { x; }"), "x", "null")
	isType(t, all("class C { y: any = x; } "+x+"if (x === null) { throw 1; }"), "x", "number | string | null")
}

// 18.1: a fact holds of the uses of one declaration alone, and of none that is assigned anywhere.
func TestFactsOfDeclarations(t *testing.T) {
	isType(t, all("function f(x: number | null) { if (x === null) { const x: number | null = 1; x; } }"), "x", "number | null")
	isType(t, all("function f(x: number | null) { if (x === null) { const g = (x: number | null) => x; } }"), "x", "number | null")
	isType(t, all("function f(x: number | null) { if (x === null) { const g = (y: number | null) => x; } }"), "x", "null")
	isType(t, all("function f(x: number | null) { if (x === null) { return; } { const x: number | null = 1; } x; }"), "x", "number")
	isType(t, all("function f(x: number | null, y: number | null) { if (x === null) { y; } }"), "y", "number | null")
	// The names of a function in a condition are none of the condition's.
	isType(t, all("const x: number | null = 1; if ((() => { const x = 1; return x; }) && x) { x; }"), "x", "number")
	isType(t, all("const x: number | null = 1; if (x && ((x) => { return x; })) { x; }"), "x", "number")
	isType(t, all("const x: number | null = 1; if ((function (x) { x; })(1)) { x; }"), "x", "number | null")
	// Assigned: of the same declaration, anywhere in the module.
	isType(t, all("let x: number | null = 1; x = 2; if (x) { x; }"), "x", "number | null")
	isType(t, all("let x: number | null = 1; if (x) { x; } "), "x", "number")
	isType(t, all("let x: number | null = 1; if (x) { x; } function f() { x = 1; }"), "x = 1", "number")
	isRefused(t, "let x: number | null = 1; if (x) { x - 1; } function f() { x = 1; }", "x - 1", api.ErrType)
	isRefused(t, "function f(x: number | null) { if (x) { x - 1; x = null; } }", "x - 1", api.ErrType)
	isWell(t, "function f(x: number | null) { if (x) { x - 1; } } function g(x: number | null) { x = null; }")
	isWell(t, "let x: number | null = 1; if (x) { x - 1; } { let x = 1; x = 2; }")
	isWell(t, "function f(x: { a: number; } | null) { if (x) { x.a = x.a - 1; } }")
	isWell(t, "function f(x: number[] | null) { if (x !== null) { x[0] = x[1] - 1; } }")
	// An assigned name is told as it is declared, also as a target.
	isType(t, all("let x: number | null = 1; if (x) { x = 1; }"), "x", "number | null")
	isType(t, all("let x: any = 1; if (typeof x === 'number') { x; }"), "x", "number")
	isType(t, all("let x: any = 1; if (typeof x === 'number') { x; x = 1; }"), "x", "any")
	isWell(t, "let x: number | null = 1; if (x === null) { x = 5; }")
}

// 18.1: facts of names of all kinds.
func TestFactsOfNames(t *testing.T) {
	const b = "export const x: number | null = 1; export let raw = 1;"
	isType(t, all("import { x } from './b'; if (x) { x; }", b), "x", "number")
	isType(t, all("import { x as y } from './b'; if (y === null) { throw 1; } y;", b), "y", "number")
	isType(t, all("import { raw } from './b'; if (typeof raw === 'string') { raw; }", b), "raw", "string")
	isType(t, all("import * as n from './b'; if (n) { n.x; }", b), "n.x", "number | null")
	isType(t, all("import * as n from './b'; if (n.x) { n.x; }", b), "n.x", "number | null")
	isType(t, all("function f(x) { if (x === null) { x; } }"), "x", "null")
	isType(t, all("const x = parse('1'); if (x !== undefined) { x; }"), "x", "number")
	isType(t, all("const x = read(); if (x) { x; }"), "x", "string")
	isType(t, all("if (typeof print === 'number') { print; }"), "print", "(any) => undefined")
	isType(t, all("function f() { } if (f === null) { f; }"), "f", "() => any")
	isType(t, all("class C { m() { if (typeof C === 'function') { C; } } }"), "C", "class#0")
	// A name that is used ahead of its Let is any, and narrowed as that; behind the Let it is narrowed as the Let has it.
	isType(t, all("{ if (typeof x === 'number') { x; } const x: any = 1; }"), "x", "number")
	isType(t, all("function f(c) { if (x === null) { return; } x; const x = c ? 1 : null; }"), "x", "any")
	isType(t, all("function f(c) { if (x === null) { return; } x; const x = c ? 1 : null; x; }"), "x", "number")
	isType(t, all("function f(c) { if (typeof x === 'string') { } else { return; } x; const x = c ? 1 : ''; }"), "x", "string")
	isRefused(t, "function f(c) { if (typeof x === 'string') { } else { return; } x - 1; const x = c ? 1 : ''; }", "x - 1", api.ErrType)
	isWell(t, "function f(c) { if (typeof x === 'number') { } else { return; } x - 1; const x = c ? 1 : ''; x - 1; }")
	isRefused(t, "function f(c) { if (typeof x === 'string') { } else { return; } const y = [x]; const x = c ? 1 : ''; const z: string = x; y[0] - 1; }", "y[0] - 1", api.ErrType)
	// The name of a New is narrowed as any other.
	isType(t, all("class C { } const c = read() ? C : null; if (c) { new c(); }"), "new c()", "inst#0")
	isRefused(t, "class C { } const c = read() ? C : null; new c();", "new c()", api.ErrType)
	isRefused(t, "function f(c) { if (c === null) { new c(); } }", "new c()", api.ErrType)
	isWell(t, "function f(c) { if (c !== null) { new c(1); } if (typeof c === 'function') { new c(); } }")
	// Outer facts come ahead of inner ones.
	isType(t, all("function f(x: number | string) { if (typeof x === 'number') { if (typeof x === 'string') { x; } } }"), "x", "number")
	isType(t, all("function f(x: number | string) { if (typeof x === 'string' && typeof x === 'number') { x; } }"), "x", "string")
	isType(t, all("function f(x: number | string) { if (typeof x === 'string') { throw 1; } typeof x === 'string' ? x : 1; }"), "x", "number")
	isType(t, all("function f(x) { if (typeof x === 'string') { if (x === null) { x; } } }"), "x", "string")
}

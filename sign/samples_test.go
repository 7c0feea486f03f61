package sign

import (
	"testing"

	"gusset/api"
)

// 16.1: the chapter's examples. (That of void is scope's matter.)
func TestExamples(t *testing.T) {
	isTops(t, all("type T = number | U; type U = string; let x: T[] = [];"), "T: number | string; U: string; x: (number | string)[]")
	isRefused(t, all("type A = { a: A; };"), 0, api.ErrType)
	isClasses(t, all("class C { n: C | null = null; m(x) {} }"), "0 C() { m: (any) => any; n: null | inst#0 }")
	isTops(t, all("import { T } from './b'; let x: T = 1;", "export type T = number | string[];"), "x: number | string[]", "T: number | string[]")
	isTops(t, all("function f(a, b: string) {}"), "f: (any, string) => any")
	// The eighth and the tenth example of the whole.
	isTops(t, all("import type { T } from './b'; const x: T = 1; print(x);", "export type T = number; print('never');"), "x: number", "T: number")
	isTops(t, all("import f from './b'; print(f());", "export default function f(): number { return 7; }"), "", "f: () => number")
}

// 16.1: what each item declares, alone, in an Export, in a Default; what declares nothing.
func TestItems(t *testing.T) {
	for _, c := range []struct{ item, want string }{
		{"let x: number = 1;", "x: number"},
		{"const x: string[] = [];", "x: string[]"},
		{"let x = 1;", ""},
		{"const x = function (a: number): number { return a; };", ""},
		{"function f() { }", "f: () => any"},
		{"function f(): boolean { return true; }", "f: () => boolean"},
		{"function f(a, b, c) { }", "f: (any, any, any) => any"},
		{"function f(a: null, b, c: undefined): any { }", "f: (null, any, undefined) => any"},
		{"function f(g: (a: number, b: string) => boolean): () => null { return g; }", "f: ((number, string) => boolean) => () => null"},
		{"class C { }", "C: class#0"},
		{"type T = { b: number; a: string; };", "T: { a: string; b: number; }"},
		{"type T = any;", "T: any"},
	} {
		isTops(t, all(c.item), c.want)
		isTops(t, all("export "+c.item), c.want)
		isTops(t, all("print(1); { } "+c.item+" if (true) { }"), c.want)
	}
	isTops(t, all("export default class C { }"), "C: class#0")
	isTops(t, all("export default function f(a): null { return null; }"), "f: (any) => null")
	for _, item := range []string{
		"export default 5;", "export default (a) => a;", "print(1);", "{ let x: number = 1; function f() { } }",
		"if (true) { let x: number = 1; } else { function f() { } }", "while (false) { let x: number = 1; }", "throw 1;",
		"import './a';", "import { x as y } from './a'; export let x = 1;", "import * as n from './a';", "export * from './a';", "export * as n from './a';",
	} {
		isTops(t, all(item), "")
	}
	isTops(t, all(""), "")
}

// 16.1: the names rise, byte by byte, whatever order the items have, and those of one module do not meet those of another.
func TestTopsRise(t *testing.T) {
	isTops(t, all("import './b'; type b = number; let B: string = ''; class _ { } function a() { } export let aa: null = null; let x = 1; type ä = any; export default class a1 { }", "import './c'; let b: boolean = true; type a = null;", ""),
		"B: string; _: class#0; a: () => any; a1: class#1; aa: null; b: number; ä: any", "a: null; b: boolean", "")
}

// 16.1: classes are numbered by modules, then by items, wherever they stand in these; a module that is asked for later has later numbers.
func TestClassNumbers(t *testing.T) {
	sources := all("import './c'; class B { } export class A { } import './b'; export default class C { }", "export class A { } let x: A = new A();", "let x: A | null = null; import { A } from './b'; class Z { }")
	// /c.ts is met first, and asks for /b.ts.
	isTops(t, sources, "A: class#1; B: class#0; C: class#2", "Z: class#3; x: null | inst#4", "A: class#4; x: inst#4")
	isClasses(t, sources, "0 B() {  }", "0 A() {  }", "0 C() {  }", "1 Z() {  }", "2 A() {  }")
}

// 16.1: a class's parameters as they stand, its members by rising names, with and without types; a class within its own members.
func TestClassInfo(t *testing.T) {
	isClasses(t, all("class C { b = 1; a: number = 1; }"), "0 C() { a: number; b: any }")
	isClasses(t, all("class C { constructor() { } }"), "0 C() {  }")
	isClasses(t, all("class C { constructor(b: string, a, c: C[]) { } z(): C { return this; } f: (c: C) => C = null; }"), "0 C(string, any, inst#0[]) { f: (inst#0) => inst#0; z: () => inst#0 }")
	isClasses(t, all("class C { m(a, b: null): number { return 1; } _() { } if: any = 1; Z(c: D): { d: D; } { return c; } } class D { c: C | D | null = null; }"), "0 C() { Z: (inst#1) => { d: inst#1; }; _: () => any; if: any; m: (any, null) => number }", "0 D() { c: null | inst#0 | inst#1 }")
	isClasses(t, all("import { D } from './b'; export class C { d: D | null = null; }", "import { C } from './a'; export class D { c: C | null = null; constructor(c: C) { } }"), "0 C() { d: null | inst#1 }", "1 D(inst#0) { c: null | inst#0 }")
	isClasses(t, all("let x: number = 1; function f() { }"))
}

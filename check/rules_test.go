package check

import (
	"testing"

	"gusset/api"
)

// 18.1: the chapter's examples.
func TestExamples(t *testing.T) {
	isRefused(t, `const x: number = "t";`, `const x: number = "t";`, api.ErrType)
	isWell(t, `let x: number | string = 1; if (typeof x === "number") { x + 1; }`)
	isWell(t, `let x: number | string = 1; if (typeof x === "number") { x - 1; }`)
	isRefused(t, `let x: number | string = 1; if (typeof x === "number") { x - 1; } x = "a";`, "x - 1", api.ErrType)
	isWell(t, `function f(a: string | null): string { if (a === null) { return ""; } return a; }`)
	const f = `function f(a: string | null): string { if (a === null) { return ""; } return a; } `
	isRefused(t, f+"f(1);", "1", api.ErrType)
	isRefused(t, f+"f();", "f()", api.ErrType)
	isRefused(t, `"a" - 1;`, `"a" - 1`, api.ErrType)
	const n = "import * as n from './b'; "
	isWell(t, n+"n.x - 1;", "export const x: number = 1;")
	isRefusedAt(t, all(n+"n.x = 1;", "export const x: number = 1;"), 0, "n.x = 1", api.ErrType)
	isRefusedAt(t, all(n+"n.nope;", "export const x: number = 1;"), 0, "n.nope", api.ErrType)
	isWell(t, "class C { x: number = 1; } const c: { x: number; } = new C();")
	isRefused(t, "class C { x: number = 1; } const d: C = { x: 1 };", "const d: C = { x: 1 };", api.ErrType)
}

// 18.1: what every rule gives, as 18.2 tells it.
func TestTypes(t *testing.T) {
	const names = "const num: number = 1; const str: string = ''; const boo: boolean = true; const val: any = 1; const rec: { a: number; b: string | null; } = { a: 1, b: null };" +
		" const lis: string[] = []; const uni: number | string = 1; class C { x: number = 1; m(a: string): C { return this; } } const ins: C = new C(); function fun(a: number, b): string { return ''; } "
	for _, c := range [][2]string{
		{"5", "number"}, {`"a"`, "string"}, {"true", "boolean"}, {"false", "boolean"}, {"null", "null"}, {"undefined", "undefined"},
		{"num", "number"}, {"[]", "any[]"}, {"[1]", "number[]"}, {`["a", 1, "b"]`, "(number | string)[]"}, {"[[], [1]]", "(any[] | number[])[]"}, {"[val, 1]", "any[]"},
		{"{}", "{}"}, {`{ b: 1, a: "t" }`, "{ a: string; b: number; }"}, {`{ a: 1, a: "t" }`, "{ a: string; }"}, {`{ a: 1, b: 2, a: null, a: true }`, "{ a: boolean; b: number; }"}, {"{ if: uni }", "{ if: number | string; }"},
		{"-num", "number"}, {"-val", "number"}, {"!str", "boolean"}, {"!null", "boolean"}, {"typeof num", "string"}, {"typeof C", "string"},
		{"num + 1", "number"}, {"str + 1", "string"}, {"num + str", "string"}, {"str + boo", "string"}, {"str + uni", "string"}, {"val + 1", "any"}, {"null + val", "any"}, {"val + val", "any"}, {"ins + val", "any"},
		{"num - 1", "number"}, {"num * val", "number"}, {"val / val", "number"}, {"1 % 2", "number"},
		{"num < 1", "boolean"}, {"str <= str", "boolean"}, {"val > str", "boolean"}, {"num >= val", "boolean"}, {"val < val", "boolean"},
		{"num === str", "boolean"}, {"rec !== null", "boolean"}, {"num && str", "number | string"}, {"str || num", "number | string"}, {"num || val", "any"}, {"num && num", "number"}, {"uni || null", "number | string | null"},
		{"boo ? 1 : str", "number | string"}, {"1 ? 1 : 2", "number"}, {"boo ? val : 2", "any"}, {"boo ? rec : lis", "string[] | { a: number; b: string | null; }"},
		{"fun(1, null)", "string"}, {"val(1, 2, 3)", "any"}, {"val()", "any"}, {"ins.m(str)", "inst#0"}, {"new C()", "inst#0"}, {"new val(1, ins)", "any"}, {"C", "class#0"},
		{"rec.b", "string | null"}, {"ins.x", "number"}, {"ins.m", "(string) => inst#0"}, {"val.foo", "any"}, {"str.length", "number"}, {"lis.length", "number"}, {"(boo ? str : lis).length", "number"},
		{"val[str]", "any"}, {"val[null]", "any"}, {"lis[0]", "string"}, {"lis[val]", "string"}, {"str[1]", "string"}, {"[rec][0].a", "number"},
		{"rec.a = 5", "number"}, {"lis[0] = str", "string"}, {"val.a = str", "string"}, {"val[0] = null", "null"}, {"rec.b = null", "null"}, {"ins.x = val", "any"},
		{"print(1)", "undefined"}, {"read()", "string | undefined"}, {"push(lis, 1)", "number"}, {"text(null)", "string"}, {"parse(str)", "number | undefined"},
		{"print", "(any) => undefined"}, {"read", "() => string | undefined"}, {"push", "(any[], any) => number"}, {"text", "(any) => string"}, {"parse", "(string) => number | undefined"},
	} {
		isType(t, all(names+"("+c[0]+");"), c[0], c[1])
	}
	isType(t, all("(function (a: number, b): string[] { return []; });"), "function (a: number, b): string[] { return []; }", "(number, any) => string[]")
	isType(t, all("const f = (a) => 1;"), "function (a) { return 1; }", "(any) => any")
	isType(t, all("const f = function (): number { return 1; };"), "function (): number { return 1; }", "() => number")
	isType(t, all("class A { } class C { f: any = this; }"), "this", "inst#1")
}

// 18.1: trees to which no rule gives a type, and the places at which that is seen.
func TestRefusals(t *testing.T) {
	const names = "const num: number = 1; const str: string = ''; const boo: boolean = true; const val: any = 1; const rec: { a: number; b: string | null; } = { a: 1, b: null };" +
		" const lis: string[] = []; const uni: number | string = 1; class C { x: number = 1; constructor(a: number, b: string) { } m(a: string): C { return this; } } const ins: C = val;" +
		" function fun(a: number, b: string): string { return ''; } const ran: C | { x: number; } = ins; let set: number | null = 1; let any: any = 1; "
	for _, c := range [][2]string{
		{"-str", "-str"}, {"-uni", "-uni"}, {"-boo", "-boo"}, {"-null", "-null"},
		{"num + null", "num + null"}, {"str + null", "str + null"}, {"uni + 1", "uni + 1"}, {"uni + uni", "uni + uni"}, {"boo + boo", "boo + boo"}, {"boo + 1", "boo + 1"}, {"str + rec", "str + rec"}, {"lis + str", "lis + str"},
		{"num - str", "num - str"}, {"str * 1", "str * 1"}, {"1 / boo", "1 / boo"}, {"uni % 1", "uni % 1"}, {"val - str", "val - str"},
		{"num < str", "num < str"}, {"str >= 1", "str >= 1"}, {"boo < boo", "boo < boo"}, {"uni > uni", "uni > uni"}, {"null <= val", "null <= val"}, {"uni < val", "uni < val"},
		{"set = str", "set = str"}, {"set = undefined", "set = undefined"}, {"set = uni", "set = uni"}, {"any = -str", "-str"},
		{"rec.a = str", "rec.a = str"}, {"rec.c = 1", "rec.c"}, {"ins.x = str", "ins.x = str"}, {"ins.y = 1", "ins.y"}, {"str.length = 1", "str.length = 1"}, {"lis.length = 1", "lis.length = 1"}, {"ran.x = 1", "ran.x = 1"}, {"num.a = 1", "num.a"},
		{"lis[0] = 1", "lis[0] = 1"}, {"str[0] = str", "str[0] = str"}, {"lis[str] = str", "lis[str]"}, {"rec[0] = 1", "rec[0]"},
		{"num()", "num()"}, {"C(1, str)", "C(1, str)"}, {"rec.a(1)", "rec.a(1)"}, {"(boo ? fun : print)(1)", "(boo ? fun : print)(1)"}, {"ins()", "ins()"},
		{"fun()", "fun()"}, {"fun(1)", "fun(1)"}, {"fun(1, str, 1)", "fun(1, str, 1)"}, {"fun(str, 5)", "str"}, {"fun(1, 5)", "5"}, {"fun(uni, str)", "uni"}, {"fun(1, fun(2))", "fun(2)"}, {"fun(str)", "fun(str)"},
		{"new C()", "new C()"}, {"new C(1)", "new C(1)"}, {"new C(1, str, 1)", "new C(1, str, 1)"}, {"new C(str, 6)", "str"}, {"new C(7, 6)", "6"}, {"new num()", "new num()"}, {"new fun(1, str)", "new fun(1, str)"}, {"new ins()", "new ins()"}, {"new print(1)", "new print(1)"},
		{"rec.c", "rec.c"}, {"num.length", "num.length"}, {"C.x", "C.x"}, {"fun.length", "fun.length"}, {"null.a", "null.a"}, {"uni.length", "uni.length"}, {"rec.a.b", "rec.a.b"}, {"ran.m", "ran.m"},
		{"lis[str]", "lis[str]"}, {"lis[uni]", "lis[uni]"}, {"str[str]", "str[str]"}, {"rec[0]", "rec[0]"}, {"num[0]", "num[0]"}, {"ins[0]", "ins[0]"}, {"(boo ? lis : str)[0]", "(boo ? lis : str)[0]"}, {"null[0]", "null[0]"},
		{"print()", "print()"}, {"print(1, 2)", "print(1, 2)"}, {"read(1)", "read(1)"}, {"push(1, 2)", "1"}, {"push(lis)", "push(lis)"}, {"text()", "text()"}, {"parse(8)", "8"}, {"parse(uni)", "uni"},
		{"[1, -str]", "-str"}, {"{a: {b: -str}}", "-str"}, {"!(-str)", "-str"}, {"typeof -str", "-str"}, {"val === -str", "-str"}, {"boo ? 1 : -str", "-str"}, {"boo ? -str : 1", "-str"}, {"-str ? 1 : 2", "-str"}, {"boo && -str", "-str"}, {"-str || 1", "-str"},
		{"val(-str)", "-str"}, {"new val(-str)", "-str"}, {"(-str).a", "-str"}, {"val[-str]", "-str"}, {"(-str)[0]", "-str"}, {"(-str)()", "-str"}, {"val.a = -str", "-str"}, {"val[-str] = 1", "-str"},
	} {
		isRefused(t, names+"("+c[0]+");", c[1], api.ErrType)
	}
}

// 18.1: Lets, Fields and Returns.
func TestStatements(t *testing.T) {
	isWell(t, "let a = 1; const b: any = null; let c: number | null = a; let d: number[] = [];")
	isRefused(t, "let a: number = null;", "let a: number = null;", api.ErrType)
	isRefused(t, "{ let a: number | null = undefined; }", "let a: number | null = undefined;", api.ErrType)
	isRefused(t, "export const a: number = '';", `const a: number = "";`, api.ErrType)
	isRefused(t, "class C { a = 1; b: string = this.a; c: string = 1; }", "field c", api.ErrType)
	isWell(t, "class C { a: number | null = null; b = ''; c: C = this; }")
	const returns = " { if (1) { return; } while (1) { return 1; } }"
	isWell(t, "function f()"+returns, "")
	isRefused(t, "function f(): number"+returns, "return;", api.ErrType)
	isRefused(t, "function f(): undefined"+returns, "return 1;", api.ErrType)
	isWell(t, "function f(): number | undefined"+returns)
	isRefused(t, "class C { m(): number"+returns+" }", "return;", api.ErrType)
	isWell(t, "class C { constructor()"+returns+" m()"+returns+" }")
	isRefused(t, "(function (): number"+returns+");", "return;", api.ErrType)
	isRefused(t, "{ function f(): number"+returns+" }", "return;", api.ErrType)
	isRefused(t, "export function f(): number"+returns, "return;", api.ErrType)
	isRefused(t, "export default function f(): number"+returns, "return;", api.ErrType)
	isRefused(t, "export default class C { m(): number"+returns+" }", "return;", api.ErrType)
	isRefused(t, "export default -'';", `-""`, api.ErrType)
	isWell(t, "function f(): any { return; } function g(): number { } function h(): number { throw ''; }")
	// A Return is of the innermost function, be its answer typed or not.
	isWell(t, "function f(): number { const g = () => 'a'; const h = function (): string { return ''; }; function i() { return null; } return 1; }")
	isRefused(t, "function f() { const h = function (): string { return 1; }; return 2; }", "return 1;", api.ErrType)
	isRefused(t, "function f(): string { const h = function (): number { return 1; }; return 2; }", "return 2;", api.ErrType)
	isWell(t, "class C { a: any = () => null; m(): C { const f = () => this; return f(); } }")
	isRefused(t, "throw -'';", `-""`, api.ErrType)
	isRefused(t, "if (-'') { }", `-""`, api.ErrType)
	isRefused(t, "while (-'') { }", `-""`, api.ErrType)
	isRefused(t, "if (1) { } else { -''; }", `-""`, api.ErrType)
	isRefused(t, "if (1) { } else if (2) { -''; }", `-""`, api.ErrType)
	isRefused(t, "class C { constructor(a: number) { a - ''; } }", `a - ""`, api.ErrType)
	// Conditions and what is thrown may have any type.
	isWell(t, "if (null) { } while ({ }) { } throw []; ")
}

// 18.1: the walk's order: what stands within a tree, from the left on, ahead of it; modules by their numbers.
func TestOrder(t *testing.T) {
	isRefused(t, "-'a'; -'b';", `-"a"`, api.ErrType)
	isRefused(t, "('a' - 1) * ('b' - 2);", `"a" - 1`, api.ErrType)
	isRefused(t, "1 - ('b' - 2);", `"b" - 2`, api.ErrType)
	isRefused(t, "let a: number = -'a';", `-"a"`, api.ErrType)
	isRefused(t, "null(-'a');", `-"a"`, api.ErrType)
	isRefused(t, "(-'a')(-'b');", `-"a"`, api.ErrType)
	isRefused(t, "print(-'a', -'b');", `-"a"`, api.ErrType)
	isRefused(t, "new print(-'a');", `-"a"`, api.ErrType)
	isRefused(t, "'a'.b = -'c';", `"a".b`, api.ErrType)
	isRefused(t, "let x: number = 1; x = -'c';", `-"c"`, api.ErrType)
	isRefused(t, "'a'.length = -'c';", `-"c"`, api.ErrType)
	isRefused(t, "if (1) { -'a'; } else { -'b'; }", `-"a"`, api.ErrType)
	isRefused(t, "if (-'c') { -'a'; }", `-"c"`, api.ErrType)
	isRefused(t, "function f(): number { return -'a'; }", `-"a"`, api.ErrType)
	isRefused(t, "class C { b: number = -'b'; constructor() { -'c'; } m() { -'m'; } }", `-"b"`, api.ErrType)
	isRefused(t, "class C { m() { -'m'; } constructor() { -'c'; } b: number = 1; }", `-"c"`, api.ErrType)
	isRefused(t, "class C { m() { -'m'; } n() { -'n'; } }", `-"m"`, api.ErrType)
	// A function is walked where it stands, though it may be called ahead of that.
	isRefused(t, "f(); -'a'; function f() { -'f'; }", `-"a"`, api.ErrType)
	// The entry is module 0, whatever is evaluated first.
	isRefusedAt(t, all("import './b'; -'a';", "-'b';"), 0, `-"a"`, api.ErrType)
	isRefusedAt(t, all("import './b'; -1;", "import './c'; -2;", "-'c';"), 2, `-"c"`, api.ErrType)
	isRefusedAt(t, all("import './c'; import './b'; -1;", "-'b';", "-'c';"), 1, `-"c"`, api.ErrType)
	isWell(t, "")
	isWell(t, "import './b';", "")
	if mod, at, err := Check(api.Linked{}, api.Signs{}); mod != 0 || at != 0 || err != api.OK {
		t.Error(mod, at, err)
	}
}

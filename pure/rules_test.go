package pure

import (
	"strings"
	"testing"

	"gusset/api"
	"gusset/module"
	"gusset/tree"
)

// 19.1: expressions of every kind.
func TestExpr(t *testing.T) {
	for source, want := range map[string]bool{
		"0": true, "9007199254740991": true, "''": true, "'x()'": true, "true": true, "false": true, "null": true, "undefined": true,
		"() => 1": true, "() => print(1)": true, "function () { f(); }": true, "function (a, b: T): any { while (true) { } }": true,
		"[]": true, "[1, 'a', null]": true, "[[], [[true]]]": true, "[1, x]": false, "[x, 1]": false, "[[], [f()]]": false,
		"({ })": true, "({ a: 1, b: [2], if: { } })": true, "({ a: 1, a: 2 })": true, "({ a: x, b: 1 })": false, "({ a: 1, b: x })": false, "({ a })": false,
		"[1, { a: () => print(1) }]": true,
		"true ? 1 : 'x'":             true, "1 ? 2 : x": false, "1 ? x : 2": false, "x ? 1 : 2": false,
		"!0": true, "!!null": true, "!x": false, "typeof 1": true, "typeof (() => x)": true, "typeof x": false, "typeof !1": true, "-1": false, "!-1": false, "-'a'": false, "-(() => 1)": false,
		"1 && 2": true, "1 || 2": true, "1 && [] || { }": true, "1 && x": false, "x && 1": false, "1 || x": false, "x || 1": false, "0 && f()": false, "1 || f()": false,
		"1 + 2": false, "1 - 2": false, "1 * 2": false, "1 / 2": false, "1 % 2": false, "1 === 2": false, "1 !== 2": false, "1 < 2": false, "1 <= 2": false, "1 > 2": false, "1 >= 2": false,
		"x": false, "undefined_": false, "this": false, "x = 1": false, "x.a = 1": false, "[][0] = 1": false, "f()": false, "(() => 1)()": false, "new C()": false, "new C(1)": false,
		"({ a: 1 }).a": false, "'a'.length": false, "[1][0]": false, "[].a": false,
	} {
		if got := Expr(expr(t, source)); got != want {
			t.Errorf("%s: %t", source, got)
		}
	}
}

// 19.1: of what a pure expression has within each part counts, wherever it stands; but in functions.
func TestParts(t *testing.T) {
	around := []string{"[#]", "[#, 1]", "[1, 2, #]", "({ a: # })", "({ a: 1, b: #, c: 2 })", "(# ? 1 : 2)", "(1 ? # : 2)", "(1 ? 2 : #)", "!(#)", "typeof (#)", "((#) && 1)", "(1 && (#))", "((#) || 1)", "(1 || (#))"}
	inner := map[string]bool{"1": true, "'#'": true, "() => f()": true, "x": false, "this": false, "f()": false, "new C()": false, "x = 1": false, "x.y": false, "x[1]": false, "-1": false, "1 + 1": false, "1 === 1": false}
	for _, one := range around {
		for _, two := range around {
			for within, want := range inner {
				source := strings.Replace(strings.Replace(one, "#", two, 1), "#", within, 1)
				if got := Expr(expr(t, source)); got != want {
					t.Errorf("%s: %t", source, got)
				}
				hidden := "[() => " + source + ", function () { return " + source + "; }]"
				if !Expr(expr(t, hidden)) {
					t.Errorf("%s is not pure", hidden)
				}
			}
		}
	}
}

// 19.1: items of every kind.
func TestItem(t *testing.T) {
	for source, want := range map[string]bool{
		"function f() { }": true, "function f() { g(); }": true, "function f(a: T): U { return a; }": true,
		"class C { }": true, "class C { x = f(); constructor() { f(); } m() { f(); } }": true,
		"type T = number;": true, "type T = { a: U; };": true,
		"import './x';": true, "import { a } from './x';": true, "import type { a } from './x';": true, "import d, * as n from './x';": true,
		"export { a };": true, "export { a } from './x';": true, "export type { a } from './x';": true, "export * from './x';": true, "export * as n from './x';": true,
		"let a = 1;": true, "const a = 1;": true, "const a: T = [];": true, "let a = f();": false, "const a = x;": false, "const a: T = 1 + 2;": false, "const a = () => f();": true,
		"1;": true, "[1, { a: () => print(1) }];": true, "x;": false, "f();": false, "x = 1;": false, "new C();": false, "-1;": false, "!0;": true, "'a';": true,
		"export default 5;": true, "export default x;": false, "export default f();": false, "export default [() => f()];": true, "export default 1 + 2;": false,
		"export default function f() { g(); }": true, "export default class C { x = f(); }": true,
		"export let a = 1;": true, "export const a: T = { };": true, "export let a = f();": false, "export const a = x;": false,
		"export function f() { g(); }": true, "export class C { x = f(); }": true, "export type T = U;": true,
		"if (true) { }": false, "if (1) { 1; } else { 2; }": false, "while (false) { }": false, "throw 1;": false, "{ }": false, "{ 1; }": false, "return;": false, "return 1;": false,
	} {
		if got := Item(items(t, source)[0]); got != want {
			t.Errorf("%s: %t", source, got)
		}
	}
}

// 19.1: an item's statement alone is asked, not what stands beside it in the module.
func TestItems(t *testing.T) {
	l := items(t, "const a = 1; f(); export const b = 2; export const c = f();")
	for i, want := range []bool{true, false, true, false} {
		if got := Item(l[i]); got != want {
			t.Errorf("%d: %t", i, got)
		}
	}
}

// 19.1: what is no FormExpr is no pure expression; what is no FormItem or FormStmt no pure item.
func TestForms(t *testing.T) {
	one := api.Node{Kind: api.Num, N: 1}
	none := api.Node{Kind: api.None}
	block := api.Node{Kind: api.Block}
	of := func(kind int, text string, kids ...api.Node) api.Node {
		return api.Node{Kind: kind, Text: text, Kids: kids}
	}
	let := of(api.Let, "a", none, one)
	for _, n := range []api.Node{
		{}, none, {Kind: -1}, {Kind: 1000}, of(api.Prop, "a", one), of(api.Params, ""), of(api.Param, "a", none), of(api.TypeProp, "a", of(api.TypeName, "T")),
		of(api.TypeName, "number"), of(api.TypeArray, "", of(api.TypeName, "any")), of(api.TypeObject, ""),
		of(api.Field, "a", none, one), of(api.Ctor, "", of(api.Params, ""), block), of(api.Method, "a", of(api.Params, ""), none, block),
		of(api.ImportOne, "a", of(api.Name, "a")), of(api.ExportOne, "a", none), of(api.SpaceOne, "a", of(api.Name, "a")), of(api.Space, "a"),
		of(api.Module, ""), of(api.Script, ""), of(api.Module, "", let), of(api.Script, "", let),
		{Kind: api.Num, N: -1}, {Kind: api.Num, N: api.MaxSafe + 1}, {Kind: api.Num, Text: "1"}, of(api.Num, "", one), of(api.Text, "\xff"), {Kind: api.Bool, N: 2}, {Kind: api.Null, N: 1}, of(api.Undef, "x"),
		of(api.Array, "", none), of(api.Array, "", let), of(api.Array, "x"), of(api.Array, "", api.Node{Kind: api.Num, N: -1}), of(api.Object, "", one), of(api.Object, "", of(api.Prop, "", one)), of(api.Object, "", of(api.Prop, "a")),
		of(api.Cond, "", one, one), of(api.Cond, "", one, one, one, one), of(api.Unary, "!"), of(api.Unary, "!", one, one), of(api.Unary, "", one), of(api.Unary, "void", one), of(api.Binary, "&&", one), of(api.Binary, "&&", one, one, one), of(api.Binary, "??", one, one),
		of(api.Func, ""), of(api.Func, "", of(api.Params, ""), none), of(api.Func, "", of(api.Params, ""), none, of(api.Block, "", one)), of(api.Func, "f", of(api.Params, ""), none, block),
		of(api.Let, "a", none), of(api.Let, "if", none, one), of(api.Let, "a", one, one), {Kind: api.Let, Text: "a", N: 2, Kids: []api.Node{none, one}}, of(api.Let, "a", none, one, one), of(api.Let, "a", none, of(api.Array, "", none)),
		of(api.Expr, ""), of(api.Expr, "", none), of(api.Expr, "", one, one), of(api.Expr, "", let), of(api.Default, ""), of(api.Default, "", let), of(api.Default, "", one, one), of(api.Export, ""), of(api.Export, "", one), of(api.Export, "", of(api.Expr, "", one)), of(api.Export, "", let, let), of(api.Export, "", of(api.Export, "", let)),
		of(api.Function, "f"), of(api.Function, "", of(api.Params, ""), none, block), of(api.Class, ""), of(api.Class, "C", one), of(api.Alias, "T"), of(api.Alias, "T", none), of(api.Import, "\xff"), {Kind: api.Import, Text: "./x", N: 1}, of(api.ExportFrom, "./x"), of(api.ExportFrom, "", of(api.ExportOne, "*", none)),
	} {
		if Expr(n) || Item(n) {
			t.Errorf("%v is pure", n)
		}
	}
	for _, n := range []api.Node{one, of(api.Array, "", one), of(api.Func, "", of(api.Params, ""), none, block), of(api.Unary, "!", one)} {
		if !Expr(n) || Item(n) || Expr(of(api.Expr, "", n)) || !Item(of(api.Expr, "", n)) {
			t.Errorf("%v, as an expression and as an item", n)
		}
	}
	for _, n := range []api.Node{let, of(api.Export, "", let), of(api.Default, "", one), of(api.Class, "C"), of(api.Import, ""), of(api.Function, "f", of(api.Params, ""), none, block)} {
		if Expr(n) || !Item(n) {
			t.Errorf("%v, as an expression and as an item", n)
		}
	}
}

// 19.1: items of scripts are statements and classes as well; a namespace is no item of a module.
func TestScripts(t *testing.T) {
	n, _, err := module.Script("const a$1 = [1]; class C$2 { } function f$1() { } print(a$1); namespace $1 { x = a$1; }")
	if err != api.OK {
		t.Fatal(err)
	}
	for i, want := range []bool{true, true, true, false, false} {
		if got := Item(n.Kids[i]); got != want {
			t.Errorf("%d: %t", i, got)
		}
	}
	if Item(n) || Expr(n) || tree.Form(n) != api.FormScript {
		t.Error("a script is pure")
	}
}

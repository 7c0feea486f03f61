package show

import (
	"testing"

	"gusset/api"
	"gusset/tree"
)

// 8.1: the chapter's examples.
func TestExamples(t *testing.T) {
	shows(t,
		"(Binary * (Binary + 1 2) 3)", "(1 + 2) * 3",
		"(Binary - a (Binary - b c))", "a - (b - c)",
		"(Unary - (Unary - a))", "--a",
		"(Expr (Call (Func (Params) _ (Block))))", "(function () {}());",
		"(Expr (Object (Prop a 1)))", "({ a: 1 });",
		"(Member x 5)", "5.x",
		"(Cond (Cond a b c) d e)", "(a ? b : c) ? d : e",
		"(TypeArray (TypeUnion :a :b))", "(a | b)[]",
		"(Import ./m (ImportOne default d) (ImportOne a a) (ImportOne if x))", `import d, { a, if as x } from "./m";`,
		"(Function f (Params) _ (Block (Return 1)))", "function f() {\n  return 1;\n}",
	)
}

// 8.1: each kind of expression.
func TestExpressions(t *testing.T) {
	shows(t,
		"0", "0", "7", "7", "9007199254740991", "9007199254740991",
		`(Text "")`, `""`, `(Text "a b")`, `"a b"`, `(Text "'\"\\\n\t\r\x00\x7f//é€")`, `"'\"\\\n\t\u{d}\u{0}\u{7f}//é€"`,
		"(Bool)", "false", "(Bool #1)", "true", "(Null)", "null", "(Undef)", "undefined", "(This)", "this",
		"x", "x", "$1", "$1", "a$1", "a$1", "äΩЖ_9", "äΩЖ_9", "constructor", "constructor",
		"(Array)", "[]", "(Array a)", "[a]", "(Array a 1 (Array) b)", "[a, 1, [], b]",
		"(Object)", "{}", "(Object (Prop a 1))", "{ a: 1 }", "(Object (Prop a a) (Prop a 2) (Prop if (Object)))", "{ a: a, a: 2, if: {} }",
		"(Func (Params) _ (Block))", "function () {}", "(Func (Params) :T (Block))", "function (): T {}",
		"(Func (Params (Param a _)) _ (Block))", "function (a) {}", "(Func (Params (Param a :T) (Param b _) (Param c (TypeArray :U))) :null (Block))", "function (a: T, b, c: U[]): null {}",
		"(Func (Params) _ (Block (Return _)))", "function () {\n  return;\n}",
		"(Unary - a)", "-a", "(Unary ! a)", "!a", "(Unary typeof a)", "typeof a", "(Unary - 5)", "-5",
		"(Unary typeof (Unary typeof a))", "typeof typeof a", "(Unary - (Unary typeof a))", "-typeof a", "(Unary typeof (Unary ! a))", "typeof !a", "(Unary ! (Unary - a))", "!-a",
		"(Binary + a b)", "a + b", "(Binary - a b)", "a - b", "(Binary * a b)", "a * b", "(Binary / a b)", "a / b", "(Binary % a b)", "a % b", "(Binary === a b)", "a === b", "(Binary !== a b)", "a !== b",
		"(Binary < a b)", "a < b", "(Binary <= a b)", "a <= b", "(Binary > a b)", "a > b", "(Binary >= a b)", "a >= b", "(Binary && a b)", "a && b", "(Binary || a b)", "a || b",
		"(Binary - a (Unary - b))", "a - -b", "(Binary - (Unary - a) b)", "-a - b",
		"(Cond a b c)", "a ? b : c", "(Assign a b)", "a = b", "(Assign (Member x a) b)", "a.x = b", "(Assign (Index a 0) b)", "a[0] = b",
		"(Call f)", "f()", "(Call f a)", "f(a)", "(Call f a 1 (Call g))", "f(a, 1, g())",
		"(New C)", "new C()", "(New C a)", "new C(a)", "(New C a (New D) b)", "new C(a, new D(), b)",
		"(Member x a)", "a.x", "(Member if a)", "a.if", "(Index a 0)", "a[0]", "(Index a (Index b c))", "a[b[c]]",
		"(Member c (Call (Index (Member b a) 0) 1))", "a.b[0](1).c", "(Call (New C 1) 2)", "new C(1)(2)", "(Member x (Func (Params) _ (Block)))", "function () {}.x", "(Member x (Object))", "{}.x",
		`(Member x (Text a))`, `"a".x`, "(Index (Array a) 0)", "[a][0]", "(Call 5)", "5()", "(Index 5 6)", "5[6]", "(Member x (Null))", "null.x",
	)
}

// 8.1: each kind of type.
func TestTypes(t *testing.T) {
	shows(t,
		":T", "T", ":number", "number", ":string", "string", ":boolean", "boolean", ":any", "any", ":null", "null", ":undefined", "undefined", ":$1", "$1",
		"(TypeArray :T)", "T[]", "(TypeArray (TypeArray :T))", "T[][]", "(TypeArray (TypeObject))", "{}[]", "(TypeArray (TypeFunc (Params) :T))", "(() => T)[]", "(TypeArray (TypeArray (TypeUnion :T :U)))", "(T | U)[][]",
		"(TypeUnion :T :U)", "T | U", "(TypeUnion :T :T (TypeArray :U) :null)", "T | T | U[] | null", "(TypeUnion (TypeObject) (TypeArray (TypeUnion :T :U)))", "{} | (T | U)[]",
		"(TypeUnion (TypeFunc (Params) :T) :U)", "(() => T) | U", "(TypeUnion :U (TypeFunc (Params) :T))", "U | (() => T)", "(TypeUnion (TypeFunc (Params) :T) (TypeFunc (Params) (TypeUnion :T :U)))", "(() => T) | (() => T | U)",
		"(TypeObject)", "{}", "(TypeObject (TypeProp a :T))", "{ a: T; }", "(TypeObject (TypeProp a :T) (TypeProp if (TypeObject)) (TypeProp b (TypeUnion :T :U)))", "{ a: T; if: {}; b: T | U; }",
		"(TypeObject (TypeProp a (TypeFunc (Params) :T)))", "{ a: () => T; }",
		"(TypeFunc (Params) :T)", "() => T", "(TypeFunc (Params (Param a :T)) :U)", "(a: T) => U", "(TypeFunc (Params (Param a :T) (Param b (TypeUnion :T (TypeFunc (Params) :U)))) (TypeUnion :T :U))", "(a: T, b: T | (() => U)) => T | U",
		"(TypeFunc (Params (Param a (TypeFunc (Params) :T))) (TypeFunc (Params) (TypeArray :T)))", "(a: () => T) => () => T[]",
	)
}

// 8.1: each kind of statement.
func TestStatements(t *testing.T) {
	shows(t,
		"(Let x _ 1)", "let x = 1;", "(Let x #1 _ 1)", "const x = 1;", "(Let x :T (Assign a b))", "let x: T = a = b;", "(Let x #1 (TypeFunc (Params) (TypeUnion :T :U)) (Object))", "const x: () => T | U = {};",
		"(Function f (Params) _ (Block))", "function f() {}", "(Function f (Params (Param a :T) (Param b _)) (TypeObject (TypeProp a :T)) (Block))", "function f(a: T, b): { a: T; } {}",
		"(Expr a)", "a;", "(Expr (Call f))", "f();", "(Expr (Assign a (Object)))", "a = {};",
		"(If a (Block) _)", "if (a) {}", "(If a (Block) (Block))", "if (a) {} else {}", "(If (Assign a b) (Block (Expr c)) (Block (If d (Block) _)))", "if (a = b) {\n  c;\n} else {\n  if (d) {}\n}",
		"(If (Object) (Block (Block)) _)", "if ({}) {\n  {}\n}",
		"(While a (Block))", "while (a) {}", "(While (Func (Params) _ (Block)) (Block (Return _)))", "while (function () {}) {\n  return;\n}",
		"(Return _)", "return;", "(Return a)", "return a;", "(Return (Object))", "return {};", "(Return (Cond a b c))", "return a ? b : c;",
		"(Throw a)", "throw a;", "(Throw (Func (Params) _ (Block)))", "throw function () {};",
		"(Block)", "{}", "(Block (Expr a) (Block) (Return _))", "{\n  a;\n  {}\n  return;\n}",
	)
}

// 8.1: classes and aliases.
func TestClasses(t *testing.T) {
	shows(t,
		"(Class C)", "class C {}", "(Class C (Field a _ 1))", "class C {\n  a = 1;\n}", "(Class C (Ctor (Params) (Block)))", "class C {\n  constructor() {}\n}", "(Class C (Method m (Params) _ (Block)))", "class C {\n  m() {}\n}",
		"(Class C (Field a :T (Assign b c)) (Field if _ (Object)) (Ctor (Params (Param a :T) (Param b _)) (Block (Expr a))) (Method else (Params (Param a :T)) :U (Block)) (Method type (Params) _ (Block (Return _))))",
		"class C {\n  a: T = b = c;\n  if = {};\n  constructor(a: T, b) {\n    a;\n  }\n  else(a: T): U {}\n  type() {\n    return;\n  }\n}",
		"(Alias T :U)", "type T = U;", "(Alias type (TypeUnion :T (TypeFunc (Params) :U)))", "type type = T | (() => U);", "(Alias T (TypeObject))", "type T = {};",
	)
}

// 8.1: imports.
func TestImports(t *testing.T) {
	shows(t,
		"(Import ./m)", `import "./m";`, `(Import "")`, `import "";`, `(Import "a\n\"")`, `import "a\n\"";`,
		"(Import m (ImportOne default d))", `import d from "m";`, "(Import m #1 (ImportOne default d))", `import type d from "m";`,
		"(Import m (ImportOne * n))", `import * as n from "m";`, "(Import m (ImportOne default d) (ImportOne * n))", `import d, * as n from "m";`,
		"(Import m (ImportOne a a))", `import { a } from "m";`, "(Import m (ImportOne a b))", `import { a as b } from "m";`, "(Import m (ImportOne a a) (ImportOne a b) (ImportOne if c))", `import { a, a as b, if as c } from "m";`,
		"(Import m (ImportOne a a) (ImportOne default d))", `import { a, default as d } from "m";`, "(Import m (ImportOne default d) (ImportOne default e))", `import d, { default as e } from "m";`, "(Import m (ImportOne default d) (ImportOne a a) (ImportOne default e))", `import d, { a, default as e } from "m";`,
		"(Import m #1 (ImportOne a a))", `import type { a } from "m";`, "(Import m #1 (ImportOne default d) (ImportOne a b))", `import type d, { a as b } from "m";`, "(Import m #1 (ImportOne a b) (ImportOne c c))", `import type { a as b, c } from "m";`,
		"(Import m (ImportOne default type))", `import type from "m";`, "(Import m (ImportOne default from))", `import from from "m";`, "(Import m (ImportOne default type) (ImportOne from as))", `import type, { from as as } from "m";`, "(Import m (ImportOne default type) (ImportOne * from))", `import type, * as from from "m";`,
		"(Import m #1 (ImportOne default type))", `import type type from "m";`, "(Import m #1 (ImportOne default from))", `import type from from "m";`, "(Import m #1 (ImportOne default from) (ImportOne type type))", `import type from, { type } from "m";`,
		"(Import m (ImportOne as as) (ImportOne as a) (ImportOne a as) (ImportOne from from) (ImportOne type type))", `import { as, as as a, a as as, from, type } from "m";`,
	)
}

// 8.1: exports and spaces.
func TestExports(t *testing.T) {
	shows(t,
		"(Export (Let x _ 1))", "export let x = 1;", "(Export (Let x #1 :T (Func (Params) _ (Block))))", "export const x: T = function () {};", "(Export (Function f (Params) _ (Block)))", "export function f() {}", "(Export (Class C))", "export class C {}", "(Export (Alias T :U))", "export type T = U;",
		"(Export (Class C (Field a _ 1)))", "export class C {\n  a = 1;\n}",
		"(Default a)", "export default a;", "(Default (Assign a b))", "export default a = b;", "(Default (Function f (Params) _ (Block)))", "export default function f() {}", "(Default (Class C))", "export default class C {}", "(Default (Func (Params) _ (Block)))", "export default (function () {});", "(Default (Object))", "export default ({});",
		"(ExportFrom m (ExportOne * _))", `export * from "m";`, "(ExportFrom m (ExportOne * n))", `export * as n from "m";`, "(ExportFrom m (ExportOne * if))", `export * as if from "m";`, "(ExportFrom m (ExportOne * default))", `export * as default from "m";`,
		`(ExportFrom "" (ExportOne a _))`, "export { a };", `(ExportFrom "" (ExportOne a b))`, "export { a as b };", `(ExportFrom "" (ExportOne a default) (ExportOne b _) (ExportOne a a1))`, "export { a as default, b, a as a1 };", `(ExportFrom "" #1 (ExportOne a _) (ExportOne b if))`, "export type { a, b as if };",
		"(ExportFrom m (ExportOne a _))", `export { a } from "m";`, "(ExportFrom m (ExportOne if _) (ExportOne default a) (ExportOne a default))", `export { if, default as a, a as default } from "m";`, `(ExportFrom "a\n\"" #1 (ExportOne a b))`, `export type { a as b } from "a\n\"";`, "(ExportFrom m (ExportOne default _))", `export { default } from "m";`,
		`(ExportFrom "" (ExportOne as _) (ExportOne as a) (ExportOne a as) (ExportOne from type))`, "export { as, as as a, a as as, from as type };",
		"(Script (Space $1))", "namespace $1 {}\n", "(Script (Space n (SpaceOne a b)))", "namespace n {\n  a = b;\n}\n", "(Script (Space $2 (SpaceOne x x$1) (SpaceOne if $1) (SpaceOne a a)))", "namespace $2 {\n  x = x$1;\n  if = $1;\n  a = a;\n}\n",
	)
}

// 8.1: an Expr's and a Default's expression that would begin with { or function has brackets around all of it; in all other places it has none.
func TestLeading(t *testing.T) {
	f, o := "(Func (Params) _ (Block))", "(Object (Prop a 1))"
	for _, x := range [][2]string{
		{f, "function () {}"}, {o, "{ a: 1 }"}, {"(Object)", "{}"}, {"(Func (Params (Param a :T)) :U (Block))", "function (a: T): U {}"}, {"(Call " + f + " a)", "function () {}(a)"}, {"(Member x " + o + ")", "{ a: 1 }.x"}, {"(Index " + f + " 0)", "function () {}[0]"},
		{"(Call (Member x (Index " + o + " 0)))", "{ a: 1 }[0].x()"}, {"(Assign (Member x " + f + ") b)", "function () {}.x = b"}, {"(Cond " + o + " a b)", "{ a: 1 } ? a : b"}, {"(Binary + " + f + " a)", "function () {} + a"},
		{"(Cond (Binary || (Binary * " + f + " a) b) c d)", "function () {} * a || b ? c : d"}, {"(Binary - (Binary - " + o + " a) b)", "{ a: 1 } - a - b"},
	} {
		leads(t, x[0], x[1], "("+x[1]+")")
	}
}

// 8.1: what begins otherwise has no brackets around it; so if a { or function stands behind its beginning, or if it begins with a name that goes on behind that word's letters.
func TestLeadingOthers(t *testing.T) {
	f, o := "(Func (Params) _ (Block))", "(Object (Prop a 1))"
	for _, x := range [][2]string{
		{"(Binary * (Binary + " + f + " a) b)", "(function () {} + a) * b"}, {"(Call (Cond " + o + " a b))", "({ a: 1 } ? a : b)()"}, {"(Cond (Assign (Member x (Object)) a) b c)", "({}.x = a) ? b : c"},
		{"(Unary ! " + f + ")", "!function () {}"}, {"(Unary typeof " + o + ")", "typeof { a: 1 }"}, {"(Array " + f + ")", "[function () {}]"}, {"(Call g " + f + ")", "g(function () {})"}, {"(New C " + o + ")", "new C({ a: 1 })"}, {"(Assign a " + f + ")", "a = function () {}"}, {"(Binary + a " + o + ")", "a + { a: 1 }"},
		{"(Cond a " + f + " " + o + ")", "a ? function () {} : { a: 1 }"}, {`(Text "{")`, `"{"`}, {`(Text function)`, `"function"`},
		{"functional", "functional"}, {"function_", "function_"}, {"function1", "function1"}, {"functionä", "functionä"}, {"function$", "function$"}, {"(Call functions a)", "functions(a)"}, {"(Member x functional)", "functional.x"}, {"(Member function a)", "a.function"},
	} {
		leads(t, x[0], x[1], x[1])
	}
}

// leads holds an expression that is shown as bare against its text in front of an Expr or a Default, and in other places.
func leads(t *testing.T, n, bare, front string) {
	t.Helper()
	shows(t, "(Expr "+n+")", front+";", "(Default "+n+")", "export default "+front+";", "(Block (Expr "+n+"))", "{\n  "+front+";\n}")
	shows(t, n, bare, "(Return "+n+")", "return "+bare+";", "(Throw "+n+")", "throw "+bare+";", "(Let x _ "+n+")", "let x = "+bare+";", "(Export (Let x #1 _ "+n+"))", "export const x = "+bare+";", "(If "+n+" (Block) _)", "if ("+bare+") {}", "(While "+n+" (Block))", "while ("+bare+") {}", "(Class C (Field a _ "+n+"))", "class C {\n  a = "+bare+";\n}")
}

// 8.1: of a tree without a form nothing is shown: of parts, and of trees in which anything is otherwise.
func TestNone(t *testing.T) {
	for _, s := range []string{
		"(Params)", "(Params (Param a _))", "(Param a _)", "(Prop a 1)", "_", "(TypeProp a :T)", "(Field a _ 1)", "(Ctor (Params) (Block))", "(Method m (Params) _ (Block))", "(ImportOne a a)", "(ExportOne a _)", "(Space n)", "(Space n (SpaceOne a b))", "(SpaceOne a b)",
		"(Num #-1)", "(Num 1)", "(Bool #2)", `(Name "")`, "(Name if)", "(Name 1a)", `(Text "\xff")`, "(Unary + a)", "(Unary -)", "(Unary - a b)", "(Binary ? a b)", "(Binary + a)", "(Binary + a b c)", "(Cond a b)", "(Assign 1 a)", "(Assign a)", "(Call)", "(New 1)", "(Member x)", "(Index a)", "(Array :T)", "(Object a)", "(Func (Params) _)", "(Func (Params (Param a _) (Param a _)) _ (Block))", "(Func (Params) 1 (Block))",
		":if", "(TypeArray)", "(TypeUnion :T)", "(TypeUnion :T (TypeUnion :T :U))", "(TypeObject (TypeProp a :T) (TypeProp a :T))", "(TypeFunc (Params (Param a _)) :T)",
		"(Let x #2 _ 1)", "(Let x _)", "(Expr :T)", "(If a (Block))", "(If a (Expr b) _)", "(While a _)", "(Return)", "(Throw _)", "(Block a)", "(Block (Class C))", "(Block _)",
		"(Class C (Method a (Params) _ (Block)) (Field b _ 1))", "(Class C (Field constructor _ 1))", "(Class C (Field a _ 1) (Method a (Params) _ (Block)))", "(Alias T a)", "(Import m #1)", "(Import m (ImportOne a a) (ImportOne * b))", "(Import m (ImportOne a if))", "(Export (Expr a))", "(Default (Let x _ 1))", "(ExportFrom m)", `(ExportFrom "" (ExportOne * _))`, `(ExportFrom "" (ExportOne if _))`, "(ExportFrom m (ExportOne a a))",
		"(Module (Space n))", "(Module (Let a$1 _ 1))", "(Module (Expr (Member x$ a)))", "(Module a)", "(Module (Module))", "(Script (Alias T :U))", "(Script (Import m))", "(Script (Export (Let x _ 1)))", "(Script (Space n (SpaceOne a if)))", "(Script (Script))",
	} {
		if n := grown(t, s); tree.Form(n) != api.FormNone || Show(n) != "" {
			t.Errorf("%s has the form %d and is shown as %q", s, tree.Form(n), Show(n))
		}
	}
	for kind := -2; kind < 80; kind++ {
		for _, n := range []api.Node{{Kind: kind, N: 2}, {Kind: kind, Text: "\xff"}, {Kind: kind, Kids: []api.Node{{}}}, {Kind: kind, Kids: []api.Node{{Kind: kind}, {}, {}}}} {
			if got := Show(n); tree.Form(n) == api.FormNone && got != "" {
				t.Errorf("%s is shown as %q", told(n), got)
			}
		}
	}
	if got := Show(api.Node{}); got != "" {
		t.Errorf("no tree is shown as %q", got)
	}
}

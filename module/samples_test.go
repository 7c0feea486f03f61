package module

import (
	"fmt"
	"strings"
	"testing"

	"gusset/api"
	"gusset/lex"
)

// tokens are those of a source. The name $none stands for a token of a kind that is none.
func tokens(t testing.TB, s string) []api.Token {
	t.Helper()
	l, at, err := lex.Lex(s, true)
	if err != api.OK {
		t.Fatalf("%q is no source: %d at %d", s, err, at)
	}
	for i := range l {
		if l[i].Text == "$none" {
			l[i] = api.Token{Kind: 6, Text: "a"}
		}
	}
	return l
}

// source is about what the tokens came from.
func source(l []api.Token) string {
	var b strings.Builder
	for _, t := range l {
		switch t.Kind {
		case api.TokenNumber:
			fmt.Fprint(&b, t.N, " ")
		case api.TokenText:
			fmt.Fprintf(&b, "%q ", t.Text)
		case api.TokenName, api.TokenWord, api.TokenSign:
			fmt.Fprint(&b, t.Text, " ")
		default:
			fmt.Fprintf(&b, "(kind %d) ", t.Kind)
		}
	}
	return b.String()
}

var kinds = map[int]string{
	api.Num: "Num", api.Text: "Text", api.Bool: "Bool", api.Null: "Null", api.Undef: "Undef", api.Name: "Name", api.This: "This", api.Array: "Array", api.Object: "Object",
	api.Prop: "Prop", api.Func: "Func", api.Params: "Params", api.Param: "Param", api.None: "None", api.Unary: "Unary", api.Binary: "Binary", api.Cond: "Cond",
	api.Assign: "Assign", api.Call: "Call", api.New: "New", api.Member: "Member", api.Index: "Index",
	api.TypeName: "TypeName", api.TypeArray: "TypeArray", api.TypeUnion: "TypeUnion", api.TypeObject: "TypeObject", api.TypeProp: "TypeProp", api.TypeFunc: "TypeFunc",
	api.Let: "Let", api.Function: "Function", api.Expr: "Expr", api.If: "If", api.While: "While", api.Return: "Return", api.Throw: "Throw", api.Block: "Block",
	api.Class: "Class", api.Field: "Field", api.Ctor: "Ctor", api.Method: "Method", api.Alias: "Alias", api.Import: "Import", api.ImportOne: "ImportOne", api.Export: "Export",
	api.Default: "Default", api.ExportFrom: "ExportFrom", api.ExportOne: "ExportOne", api.Space: "Space", api.SpaceOne: "SpaceOne", api.Module: "Module", api.Script: "Script",
}

// told is a tree as text: (Kind text #N kids), what is zero left out; a Name with nothing else as its text, so a Num as its N, a None as _, and a TypeName with a : ahead.
func told(n api.Node) string {
	leaf := len(n.Kids) == 0
	switch {
	case leaf && n.Kind == api.Name && n.N == 0 && n.Text != "":
		return n.Text
	case leaf && n.Kind == api.TypeName && n.N == 0 && n.Text != "":
		return ":" + n.Text
	case leaf && n.Kind == api.Num && n.Text == "":
		return fmt.Sprint(n.N)
	case leaf && n.Kind == api.None && n.Text == "" && n.N == 0:
		return "_"
	}
	var b strings.Builder
	b.WriteString("(" + kinds[n.Kind])
	if kinds[n.Kind] == "" {
		fmt.Fprintf(&b, "kind %d", n.Kind)
	}
	if n.Text != "" {
		b.WriteString(" " + n.Text)
	}
	if n.N != 0 {
		fmt.Fprintf(&b, " #%d", n.N)
	}
	for _, k := range n.Kids {
		b.WriteString(" " + told(k))
	}
	return b.String() + ")"
}

// holds asks Item for that tree ("" for none), place and error.
func holds(t *testing.T, l []api.Token, at int, tree string, place int, err api.Errno) {
	t.Helper()
	n, p, e := Item(l, at)
	if tree == "" {
		tree = "(kind 0)"
	}
	if told(n) != tree || p != place || e != err {
		t.Errorf("Item(%.300s, %d): %s, %d, %d; want %s, %d, %d", source(l), at, told(n), p, e, tree, place, err)
	}
}

// reads asks Module (or Script) for those items ("" for none), byte and error.
func reads(t *testing.T, script bool, s, items string, place int, err api.Errno) {
	t.Helper()
	name, call := "Module", Module
	if script {
		name, call = "Script", Script
	}
	tree := "(kind 0)"
	if err == api.OK {
		tree = strings.TrimSuffix("("+name+" "+items, " ") + ")"
	}
	if n, p, e := call(s); told(n) != tree || p != place || e != err {
		t.Errorf("%s(%.300q): %s, %d, %d; want %s, %d, %d", name, s, told(n), p, e, tree, place, err)
	}
}

// A sample is a source that is one item, and its tree.
type sample struct {
	source, tree string
}

func pairs(l ...string) []sample {
	var out []sample
	for i := 0; i < len(l); i += 2 {
		out = append(out, sample{l[i], l[i+1]})
	}
	return out
}

// samples are items of modules: each line of the grammar, with each thing that may stand there and may not.
func samples() []sample {
	var l []sample
	for _, some := range [][]sample{classes(), aliases(), imports(), exports(), statements()} {
		l = append(l, some...)
	}
	return l
}

func classes() []sample {
	return pairs(
		"class C { }", "(Class C)",
		"class type { }", "(Class type)",
		"class C { a = 1; }", "(Class C (Field a _ 1))",
		"class C { a: T = 1; }", "(Class C (Field a :T 1))",
		"class C { if: T | U = b = c; }", "(Class C (Field if (TypeUnion :T :U) (Assign b c)))",
		"class C { a = () => 1; b = a; }", "(Class C (Field a _ (Func (Params) _ (Block (Return 1)))) (Field b _ a))",
		"class C { m() { } }", "(Class C (Method m (Params) _ (Block)))",
		"class C { class(a, b: T, ): U { return a; b; } }", "(Class C (Method class (Params (Param a _) (Param b :T)) :U (Block (Return a) (Expr b))))",
		"class C { m(m: { a: T; }) { { } } n() { } }", "(Class C (Method m (Params (Param m (TypeObject (TypeProp a :T)))) _ (Block (Block))) (Method n (Params) _ (Block)))",
		"class C { constructor() { } }", "(Class C (Ctor (Params) (Block)))",
		"class C { constructor(constructor: T, type) { this.a = type; } }", "(Class C (Ctor (Params (Param constructor :T) (Param type _)) (Block (Expr (Assign (Member a (This)) type)))))",
		"class C { m() { } x = 1; constructor(a) { } n() { } y = 2; }", "(Class C (Field x _ 1) (Field y _ 2) (Ctor (Params (Param a _)) (Block)) (Method m (Params) _ (Block)) (Method n (Params) _ (Block)))",
		"class C { type = 1; from() { } as = 2; namespace() { } }", "(Class C (Field type _ 1) (Field as _ 2) (Method from (Params) _ (Block)) (Method namespace (Params) _ (Block)))",
		"class C { default = 1; import() { } }", "(Class C (Field default _ 1) (Method import (Params) _ (Block)))",
	)
}

func aliases() []sample {
	return pairs(
		"type T = number;", "(Alias T :number)",
		"type T = { a: T; };", "(Alias T (TypeObject (TypeProp a :T)))",
		"type type = type | null;", "(Alias type (TypeUnion :type :null))",
		"type from = (a: as) => T[];", "(Alias from (TypeFunc (Params (Param a :as)) (TypeArray :T)))",
		"type constructor = namespace;", "(Alias constructor :namespace)",
	)
}

func imports() []sample {
	return pairs(
		"import './x';", "(Import ./x)",
		"import '';", "(Import)",
		"import d from './x';", "(Import ./x (ImportOne default d))",
		"import d from '';", "(Import (ImportOne default d))",
		"import d, { a as b } from './x';", "(Import ./x (ImportOne default d) (ImportOne a b))",
		"import d, { } from './x';", "(Import ./x (ImportOne default d))",
		"import d, * as n from './x';", "(Import ./x (ImportOne default d) (ImportOne * n))",
		"import * as n from './x';", "(Import ./x (ImportOne * n))",
		"import * as as from './x';", "(Import ./x (ImportOne * as))",
		"import * as from from './x';", "(Import ./x (ImportOne * from))",
		"import { } from './x';", "(Import ./x)",
		"import { a } from './x';", "(Import ./x (ImportOne a a))",
		"import { a, } from './x';", "(Import ./x (ImportOne a a))",
		"import { a as a, b, if as c, a, default as d, } from './x';", "(Import ./x (ImportOne a a) (ImportOne b b) (ImportOne if c) (ImportOne a a) (ImportOne default d))",
		"import { default as d } from './x';", "(Import ./x (ImportOne default d))",
		"import { as } from './x';", "(Import ./x (ImportOne as as))",
		"import { as as as } from './x';", "(Import ./x (ImportOne as as))",
		"import { as as b, as, b as as } from './x';", "(Import ./x (ImportOne as b) (ImportOne as as) (ImportOne b as))",
		"import { from, type, type as T, namespace as constructor } from './x';", "(Import ./x (ImportOne from from) (ImportOne type type) (ImportOne type T) (ImportOne namespace constructor))",
		"import from from './x';", "(Import ./x (ImportOne default from))",
		"import as from './x';", "(Import ./x (ImportOne default as))",
		"import from, { from } from './x';", "(Import ./x (ImportOne default from) (ImportOne from from))",
		"import type from './x';", "(Import ./x (ImportOne default type))",
		"import type, { a } from './x';", "(Import ./x (ImportOne default type) (ImportOne a a))",
		"import type, * as n from './x';", "(Import ./x (ImportOne default type) (ImportOne * n))",
		"import type T from './x';", "(Import ./x #1 (ImportOne default T))",
		"import type T from '';", "(Import #1 (ImportOne default T))",
		"import type type from './x';", "(Import ./x #1 (ImportOne default type))",
		"import type as from './x';", "(Import ./x #1 (ImportOne default as))",
		"import type from from './x';", "(Import ./x #1 (ImportOne default from))",
		"import type from, { a } from './x';", "(Import ./x #1 (ImportOne default from) (ImportOne a a))",
		"import type T, { U as V, } from './x';", "(Import ./x #1 (ImportOne default T) (ImportOne U V))",
		"import type T, { } from './x';", "(Import ./x #1 (ImportOne default T))",
		"import type { T } from './x';", "(Import ./x #1 (ImportOne T T))",
		"import type { T, if as U, } from './x';", "(Import ./x #1 (ImportOne T T) (ImportOne if U))",
	)
}

func exports() []sample {
	return pairs(
		"export let a = 1;", "(Export (Let a _ 1))",
		"export const a: T = 1;", "(Export (Let a #1 :T 1))",
		"export function f(a): T { return a; }", "(Export (Function f (Params (Param a _)) :T (Block (Return a))))",
		"export class C { a = 1; }", "(Export (Class C (Field a _ 1)))",
		"export type T = number;", "(Export (Alias T :number))",
		"export type type = type[];", "(Export (Alias type (TypeArray :type)))",
		"export let type = 1;", "(Export (Let type _ 1))",
		"export default 1 + 2;", "(Default (Binary + 1 2))",
		"export default a = b;", "(Default (Assign a b))",
		"export default function f() { }", "(Default (Function f (Params) _ (Block)))",
		"export default class C { m() { } }", "(Default (Class C (Method m (Params) _ (Block))))",
		"export default { a };", "(Default (Object (Prop a a)))",
		"export default (function () { });", "(Default (Func (Params) _ (Block)))",
		"export default () => { };", "(Default (Func (Params) _ (Block)))",
		"export default type;", "(Default type)",
		"export default from.as;", "(Default (Member as from))",
		"export default new C();", "(Default (New C))",
		"export { x };", "(ExportFrom (ExportOne x _))",
		"export { x, };", "(ExportFrom (ExportOne x _))",
		"export { x as x };", "(ExportFrom (ExportOne x _))",
		"export { x as y, x as default, z as z, x, };", "(ExportFrom (ExportOne x y) (ExportOne x default) (ExportOne z _) (ExportOne x _))",
		"export { as, as as as, as as b, b as as, from, type as if };", "(ExportFrom (ExportOne as _) (ExportOne as _) (ExportOne as b) (ExportOne b as) (ExportOne from _) (ExportOne type if))",
		"export { x } from './x';", "(ExportFrom ./x (ExportOne x _))",
		"export { if } from './x';", "(ExportFrom ./x (ExportOne if _))",
		"export { if as if, default as default, } from './x';", "(ExportFrom ./x (ExportOne if _) (ExportOne default _))",
		"export { x, default as y, if as else } from 'x';", "(ExportFrom x (ExportOne x _) (ExportOne default y) (ExportOne if else))",
		"export type { T };", "(ExportFrom #1 (ExportOne T _))",
		"export type { T as U, type, };", "(ExportFrom #1 (ExportOne T U) (ExportOne type _))",
		"export type { T } from './x';", "(ExportFrom ./x #1 (ExportOne T _))",
		"export type { default as T, if, } from './x';", "(ExportFrom ./x #1 (ExportOne default T) (ExportOne if _))",
		"export * from './x';", "(ExportFrom ./x (ExportOne * _))",
		"export * as n from './x';", "(ExportFrom ./x (ExportOne * n))",
		"export * as default from './x';", "(ExportFrom ./x (ExportOne * default))",
		"export * as from from './x';", "(ExportFrom ./x (ExportOne * from))",
		"export * as as from './x';", "(ExportFrom ./x (ExportOne * as))",
	)
}

func statements() []sample {
	return pairs(
		"a;", "(Expr a)",
		"let a: T = 1;", "(Let a :T 1)",
		"const a = 1;", "(Let a #1 _ 1)",
		"function f(a) { }", "(Function f (Params (Param a _)) _ (Block))",
		"if (a) { } else { b; }", "(If a (Block) (Block (Expr b)))",
		"while (a) { }", "(While a (Block))",
		"return;", "(Return _)",
		"throw a;", "(Throw a)",
		"{ type; }", "(Block (Expr type))",
		"type = 5;", "(Expr (Assign type 5))",
		"type;", "(Expr type)",
		"type.a = 5;", "(Expr (Assign (Member a type) 5))",
		"type === type;", "(Expr (Binary === type type))",
		"type(from, as);", "(Expr (Call type from as))",
		"namespace.x;", "(Expr (Member x namespace))",
		"namespace;", "(Expr namespace)",
		"from = as;", "(Expr (Assign from as))",
		"constructor(namespace);", "(Expr (Call constructor namespace))",
		"let namespace = constructor;", "(Let namespace _ constructor)",
	)
}

// spaces are items of scripts alone.
func spaces() []sample {
	return pairs(
		"namespace n { }", "(Space n)",
		"namespace n { a = b; }", "(Space n (SpaceOne a b))",
		"namespace $1 { x = x$1; if = $2; a = a; a = b; }", "(Space $1 (SpaceOne x x$1) (SpaceOne if $2) (SpaceOne a a) (SpaceOne a b))",
		"namespace namespace { type = type; constructor = as; }", "(Space namespace (SpaceOne type type) (SpaceOne constructor as))",
	)
}

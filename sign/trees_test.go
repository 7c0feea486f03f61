package sign

import (
	"math"
	"strings"
	"testing"

	"gusset/api"
	"gusset/types"
)

// isSaid holds what a tree says in the first of some modules: as what a let, an alias and a parameter have, as an answer, and asked by Type, with signs and without.
func isSaid(t *testing.T, text, want string, sources ...string) {
	t.Helper()
	first := sources[0]
	sources[0] = "let l$: " + text + " = 1; type t$ = " + text + "; function f$(a: " + text + "): " + text + " { return a; } " + first
	sources[0] = strings.ReplaceAll(sources[0], "$", "_0")
	l := linked(t, sources...)
	s, mod, err := Sign(l)
	if mod != 0 || err != api.OK {
		t.Fatalf("%s in %q: module %d, the error %d", text, sources, mod, err)
	}
	has := map[string]string{}
	for _, one := range s.Tops[0] {
		has[one.Name] = types.Show(one.Type)
	}
	fn := "(" + want + ") => " + want
	if has["l_0"] != want || has["t_0"] != want || has["f_0"] != fn {
		t.Errorf("%s in %q: %v, want %s", text, sources, has, want)
	}
	for _, signs := range []api.Signs{s, {}} {
		got, err := Type(l, signs, 0, tree(text))
		if types.Show(got) != want || err != api.OK {
			t.Errorf("Type of %s in %q: %s, the error %d, want %s", text, sources, types.Show(got), err, want)
		}
	}
}

// What a type's tree says: each kind of it.
func TestKinds(t *testing.T) {
	for _, name := range []string{"any", "number", "string", "boolean", "null", "undefined"} {
		isSaid(t, name, name, "")
		isSaid(t, name+"[][]", name+"[][]", "")
		isSaid(t, "{ a: "+name+"; }", "{ a: "+name+"; }", "")
		isSaid(t, "() => "+name, "() => "+name, "")
		isSaid(t, "(x: "+name+") => null", "("+name+") => null", "")
	}
	for _, c := range [][2]string{
		{"number | string", "number | string"},
		{"string | number", "number | string"},
		{"string | number | string", "number | string"},
		{"string | string", "string"},
		{"string | any | number", "any"},
		{"any[] | any", "any"},
		{"(number | any)[] | null", "null | any[]"},
		{"(null | number)[]", "(number | null)[]"},
		{"{ b: string; a: number | null; if: null; Z: any; }", "{ Z: any; a: number | null; b: string; if: null; }"},
		{"{ }", "{}"},
		{"{ a: { b: { }; }; }", "{ a: { b: {}; }; }"},
		{"{ b: null; a: null; } | { a: null; b: null; }", "{ a: null; b: null; }"},
		{"(b: string, a: number) => boolean", "(string, number) => boolean"},
		{"(a: () => null) => () => undefined", "(() => null) => () => undefined"},
		{"(a: number | string) => null | boolean", "(number | string) => boolean | null"},
		{"((a: number) => null) | ((b: number) => null)", "(number) => null"},
		{"((a: number) => null)[]", "((number) => null)[]"},
	} {
		isSaid(t, c[0], c[1], "")
	}
}

// What a type's tree says: classes and aliases, of its own module, wherever they stand in it.
func TestOwnNames(t *testing.T) {
	isSaid(t, "C", "inst#0", "class C { }")
	isSaid(t, "C | D", "inst#0 | inst#1", "class D { } export class C { }")
	isSaid(t, "{ c: C[]; }", "{ c: inst#1[]; }", "class D { } export default class C { }")
	isSaid(t, "T", "string", "type T = string;")
	isSaid(t, "T | U | V", "number | string | null | number[]", "export type T = U | number; type U = string | V; type V = null | number[];")
	isSaid(t, "T", "(number | string)[]", "type T = U[]; type U = V | string; type V = W; type W = number;")
	isSaid(t, "(a: T) => T", "(inst#0) => inst#0", "type T = C; class C { t: T = null; }")
	isSaid(t, "T | T[] | { t: T; }", "any", "type T = any;")
	// An alias that says one type twice, and one that is asked for by two.
	isSaid(t, "T", "{ a: string; b: string; c: { d: string; }; }", "type T = { a: U; b: U; c: V; }; type V = { d: U; }; type U = string;")
	// A local name says nothing of types.
	isSaid(t, "C", "inst#0", "class C { } function f(C: number) { let D: C = C; } { let C: number = 1; }")
}

// What a type's tree says: imports, by all ways that an export leads to a class or an alias.
func TestImports(t *testing.T) {
	b := "export class C { } export type T = number | U; type U = string; export { U as V, U as default }; class D { } export { D as E };"
	isSaid(t, "T", "number | string", "import { T } from './b';", b)
	isSaid(t, "X | Y", "number | string", "import { T as X, V as Y } from './b';", b)
	isSaid(t, "C | E", "inst#0 | inst#1", "import { C, E } from './b';", b)
	isSaid(t, "C | E", "inst#1 | inst#2", "import type { C, E } from './b'; class D { }", b)
	isSaid(t, "d", "string", "import d from './b';", b)
	isSaid(t, "d", "string", "import type d from './b';", b)
	isSaid(t, "d", "string", "import { default as d } from './b';", b)
	isSaid(t, "d", "inst#0", "import d from './b';", "export default class K { }")
	for _, way := range []string{
		"export * from './c';", "export { T, C } from './c';", "export type { T, C } from './c';", "import { T, C } from './c'; export { T, C };", "import type { T, C } from './c'; export { T, C };", "import { T as C, C as T } from './c'; export type { C as T, T as C };", "export * from './d';",
	} {
		isSaid(t, "T | C[]", "number | string | inst#0[]", "import { T, C } from './b';", way, b, "export * from './c';")
	}
	// The same name in each module: each says its own.
	isSaid(t, "T", "{ t: { t: number; }; }", "import { T as U } from './b'; type T = { t: U; };", "import { T as U } from './c'; export type T = { t: U; };", "export type T = number;")
	// A circle of modules is none of aliases.
	isSaid(t, "T", "{ v: string[]; }", "import { U } from './b'; type T = { v: U; }; export type V = string;", "import { V } from './a'; export type U = V[];")
	// A module imports its own.
	isSaid(t, "M", "inst#0[] | inst#0", "import { C as K, T as L } from './a'; type M = K | L; export class C { } export type T = C[];")
}

// What a type's tree says: the six names say their types, also where a top has one of them; another module comes to such a top by another name.
func TestBasicNames(t *testing.T) {
	source := "export type number = string; export class string { x: string = ''; } export type any = boolean[]; export class boolean { } let x: number | string | boolean = 1; function f(a: any): number { return 1; }"
	isTops(t, all(source), "any: boolean[]; boolean: class#1; f: (any) => number; number: string; string: class#0; x: number | string | boolean")
	isClasses(t, all(source), "0 string() { x: string }", "0 boolean() {  }")
	isSaid(t, "N", "string", "import { number as N } from './b';", source)
	isSaid(t, "S | B | A", "boolean[] | inst#0 | inst#1", "import { string as S, boolean as B, any as A } from './b';", source)
	isSaid(t, "number", "number", "import { number } from './b';", source)
}

// typeIs holds what Type answers, of a linked graph's signs and without any.
func typeIs(t *testing.T, l api.Linked, mod int, n api.Node, want string, wantErr api.Errno) {
	t.Helper()
	s, _, _ := Sign(l)
	for _, signs := range []api.Signs{s, {}} {
		got, err := Type(l, signs, mod, n)
		if err != wantErr || err == api.OK && types.Show(got) != want || err != api.OK && !isZero(got) {
			t.Errorf("%d %v: %s, the error %d; want %s, %d", mod, n, types.Show(got), err, want, wantErr)
		}
	}
}

func name(text string) api.Node { return api.Node{Kind: api.TypeName, Text: text} }

// 16.2: a name is told in its module alone; what is no class or alias, and leads to none, is ErrType.
func TestTypeNames(t *testing.T) {
	l := linked(t, "import { T, v, f as g, default as d } from './b'; import * as n from './b'; class C { } let x: number = 1; let y = 1; function h(): null { return null; } export default 5;", "export type T = string; export let v: T = ''; export function f() { } class C { } type U = C; export default 5;")
	for _, c := range []struct {
		mod        int
		text, want string
	}{
		{0, "T", "string"}, {1, "T", "string"}, {0, "C", "inst#0"}, {1, "C", "inst#1"}, {1, "U", "inst#1"},
		{0, "U", ""}, {1, "v", ""}, {0, "v", ""}, {0, "g", ""}, {0, "f", ""}, {1, "f", ""}, {0, "n", ""}, {0, "x", ""}, {0, "y", ""}, {0, "h", ""}, {0, "d", ""}, {0, "none", ""}, {0, "print", ""}, {0, "a$1", ""}, {1, "x", ""},
	} {
		err := api.OK
		if c.want == "" {
			err = api.ErrType
		}
		typeIs(t, l, c.mod, name(c.text), c.want, err)
		typeIs(t, l, c.mod, api.Node{Kind: api.TypeArray, Kids: []api.Node{name(c.text)}}, c.want+"[]", err)
		for _, form := range []string{"{ a: ?; }", "() => ?", "(a: number, b: ?) => string", "number[] | ?[]"} {
			typeIs(t, l, c.mod, tree(strings.ReplaceAll(form, "?", c.text)), strings.ReplaceAll(strings.ReplaceAll(form, "a: number, b: ", "number, "), "?", c.want), err)
		}
	}
	// Outside modules a name may have a $.
	typeIs(t, l, 0, tree("{ a$1: T; $: (b$: C) => null; }"), "{ $: (inst#0) => null; a$1: string; }", api.OK)
}

// 16.2: no such module, no type.
func TestTypeArgs(t *testing.T) {
	l := linked(t, "import './b'; class C { }", "type T = number;")
	for _, mod := range []int{-1, 2, 3, math.MinInt, math.MaxInt} {
		typeIs(t, l, mod, name("number"), "", api.ErrArg)
		typeIs(t, l, mod, name("none"), "", api.ErrArg)
		typeIs(t, l, mod, api.Node{}, "", api.ErrArg)
	}
	typeIs(t, api.Linked{}, 0, name("number"), "", api.ErrArg)
	number := name("number")
	param := api.Node{Kind: api.Param, Text: "a", Kids: []api.Node{number}}
	params := api.Node{Kind: api.Params, Kids: []api.Node{param}}
	none := api.Node{Kind: api.None}
	prop := api.Node{Kind: api.TypeProp, Text: "a", Kids: []api.Node{number}}
	block := api.Node{Kind: api.Block}
	of := func(kind int, kids ...api.Node) api.Node { return api.Node{Kind: kind, Kids: kids} }
	for _, n := range []api.Node{
		{}, none, {Kind: 99}, {Kind: -1}, {Kind: api.Name, Text: "a"}, {Kind: api.Null}, {Kind: api.Num}, params, param, prop, block, {Kind: api.Module}, {Kind: api.Script},
		name(""), name("if"), name("true"), name("1"), name("a b"), name("\xff"), {Kind: api.TypeName, Text: "number", N: 1}, {Kind: api.TypeName, Text: "number", Kids: []api.Node{number}},
		of(api.TypeArray), of(api.TypeArray, none), of(api.TypeArray, number, number), of(api.TypeArray, prop), {Kind: api.TypeArray, Text: "a", Kids: []api.Node{number}},
		of(api.TypeUnion), of(api.TypeUnion, number), of(api.TypeUnion, number, none), of(api.TypeUnion, number, of(api.TypeUnion, number, number)),
		of(api.TypeObject, number), of(api.TypeObject, prop, prop), of(api.TypeObject, api.Node{Kind: api.TypeProp, Text: "a"}), of(api.TypeObject, api.Node{Kind: api.TypeProp, Text: "a", Kids: []api.Node{none}}), of(api.TypeObject, api.Node{Kind: api.TypeProp, Text: "1", Kids: []api.Node{number}}),
		of(api.TypeFunc), of(api.TypeFunc, params), of(api.TypeFunc, params, none), of(api.TypeFunc, number, number), of(api.TypeFunc, of(api.Params, api.Node{Kind: api.Param, Text: "a", Kids: []api.Node{none}}), number), of(api.TypeFunc, of(api.Params, param, param), number), of(api.TypeFunc, params, number, block),
		{Kind: api.Function, Text: "f", Kids: []api.Node{params, number, block}}, {Kind: api.Method, Text: "f", Kids: []api.Node{params, number, block}}, {Kind: api.Alias, Text: "T", Kids: []api.Node{number}}, {Kind: api.Let, Text: "a", Kids: []api.Node{number, {Kind: api.Num}}}, {Kind: api.Class, Text: "C"},
	} {
		for _, mod := range []int{0, 1} {
			typeIs(t, l, mod, n, "", api.ErrArg)
			typeIs(t, l, mod, of(api.TypeArray, n), "", api.ErrArg)
			// Ahead of what the names say.
			typeIs(t, l, mod, of(api.TypeUnion, name("none"), n), "", api.ErrArg)
		}
	}
	typeIs(t, l, 0, of(api.TypeFunc, params, number), "(number) => number", api.OK)
	typeIs(t, l, 0, of(api.TypeFunc, of(api.Params), number), "() => number", api.OK)
	typeIs(t, l, 0, of(api.TypeObject, prop), "{ a: number; }", api.OK)
	typeIs(t, l, 0, of(api.TypeObject), "{}", api.OK)
	typeIs(t, l, 0, of(api.TypeUnion, number, number), "number", api.OK)
}

// 16.2: where Sign answers an error, what can be told is told: of each tree its own error, or what it says.
func TestTypeBesideErrors(t *testing.T) {
	l := linked(t, "import { B, D, E } from './b'; class C { } type T = C[]; export type A = { a: B; };", "import { A } from './a'; export type B = A | null; export class D { a: A = null; } export type E = { d: D; };")
	if s, mod, err := Sign(l); mod != 0 || err != api.ErrType || !isEmpty(s) {
		t.Fatal(s, mod, err)
	}
	for _, c := range [][2]string{{"C", "inst#0"}, {"T", "inst#0[]"}, {"D", "inst#1"}, {"E | C", "{ d: inst#1; } | inst#0"}, {"A", ""}, {"B", ""}, {"E | A", ""}, {"{ b: B; }", ""}, {"number", "number"}} {
		err := api.OK
		if c[1] == "" {
			err = api.ErrType
		}
		typeIs(t, l, 0, tree(c[0]), c[1], err)
	}
}

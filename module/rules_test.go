package module

import (
	"slices"
	"strings"
	"testing"

	"gusset/api"
	"gusset/tree"
)

// 7.1: the tree of each line of the grammar, and the number of the token behind, whatever stands there.
func TestItems(t *testing.T) {
	for _, s := range samples() {
		l := tokens(t, s.source)
		holds(t, l, 0, s.tree, len(l), api.OK)
		ahead, behind := tokens(t, "} ) 'x'"), tokens(t, "} = (")
		holds(t, slices.Concat(ahead, l, behind), 3, s.tree, 3+len(l), api.OK)
		n, _, _ := Item(l, 0)
		if form := tree.Form(n); form != api.FormItem && form != api.FormStmt {
			t.Errorf("%s: form %d", s.source, form)
		}
	}
}

// 7.1: a beginning of an item is refused, at its end at the latest, or is a whole one.
func TestBeginnings(t *testing.T) {
	for _, s := range samples() {
		l := tokens(t, s.source)
		for size := range l {
			n, at, err := Item(l[:size], 0)
			whole := err == api.OK && at == size && n.Kind == api.If
			if !whole && (n.Kind != 0 || at > size || err != api.ErrSyntax) {
				t.Errorf("the first %d of %s: %s, %d, %d", size, s.source, told(n), at, err)
			}
		}
	}
}

// 7.1: places that are none.
func TestPlaces(t *testing.T) {
	for _, s := range []string{"", "a", "a;", "import", "class C {"} {
		l := tokens(t, s)
		for _, at := range []int{-1, -2, -400, -1 << 63} {
			holds(t, l, at, "", 0, api.ErrSyntax)
		}
		for _, at := range []int{0, 1, 2, 400, 1<<63 - 1 - len(l)} {
			holds(t, l, len(l)+at, "", len(l), api.ErrSyntax)
		}
	}
	holds(t, nil, 0, "", 0, api.ErrSyntax)
	holds(t, []api.Token{}, 0, "", 0, api.ErrSyntax)
	holds(t, nil, 1, "", 0, api.ErrSyntax)
	holds(t, tokens(t, "a; import 'x'; type T = U;"), 2, "(Import x)", 5, api.OK)
	holds(t, tokens(t, "a; import 'x'; type T = U;"), 5, "(Alias T :U)", 10, api.OK)
	holds(t, tokens(t, "a; import 'x'; type T = U;"), 6, "(Expr (Assign T U))", 10, api.OK)
	holds(t, tokens(t, "a; import 'x'; type T = U;"), 3, "(Expr (Text x))", 5, api.OK)
	holds(t, tokens(t, "a; import 'x'; type T = U;"), 1, "", 1, api.ErrSyntax)
}

// ErrSyntax: where it is seen, of each line of the grammar in which one thing alone is otherwise.
func TestSyntax(t *testing.T) {
	for _, x := range []struct {
		s     string
		place int
	}{
		// The chapter's.
		{"import { if } from './x';", 3}, {"class C { m() {} m() {} }", 8}, {"namespace n { a = b; }", 1},
		// Classes.
		{"class", 1}, {"class {", 1}, {"class if {}", 1}, {"class 'C' {}", 1}, {"class C", 2}, {"class C ;", 2}, {"class C = 1;", 2}, {"class C {", 3}, {"class C { ;", 3}, {"class C { a", 4}, {"class C { a }", 4}, {"class C { a; }", 4}, {"class C { a = }", 5}, {"class C { a = 1 }", 6}, {"class C { a = 1, b = 2; }", 6},
		{"class C { a: = 1; }", 5}, {"class C { a: T }", 6}, {"class C { a: T; }", 6}, {"class C { a: 1 = 1; }", 5}, {"class C { 'a' = 1; }", 3}, {"class C { 1 = 1; }", 3}, {"class C { a = 1;", 7}, {"class C { a = 1 = 2; }", 6}, {"class C { let a = 1; }", 4}, {"class C { function f() {} }", 4}, {"class C { { } }", 3}, {"class C { a.b = 1; }", 4},
		{"class C { m( }", 5}, {"class C { m(a b) {} }", 6}, {"class C { m(a,,) {} }", 7}, {"class C { m(,) {} }", 5}, {"class C { m(if) {} }", 5}, {"class C { m(a:) {} }", 7}, {"class C { m(a = 1) {} }", 6}, {"class C { m() }", 6}, {"class C { m(); }", 6}, {"class C { m() => 1; }", 6}, {"class C { m(): { } }", 9}, {"class C { m() {", 7}, {"class C { m() { a } }", 8}, {"class C { m() {}; }", 8}, {"class C { m() {}, n() {} }", 8}, {"class C { m() = 1; }", 6}, {"class C { m: T() {} }", 6},
		{"class C { constructor( }", 5}, {"class C { constructor() }", 6}, {"class C { constructor(): T {} }", 6}, {"class C { constructor() = 1; }", 6}, {"class C { constructor(a b) {} }", 6}, {"class C { constructor() {", 7}, {"class C { constructor() { a } }", 8},
		// Names of a class that stand twice, or may not be.
		{"class C { a = 1; a = 2; }", 7}, {"class C { a = 1; a() {} }", 7}, {"class C { a() {} a = 1; }", 8}, {"class C { a = 1; b() {} constructor() {} b: T = 1; }", 17}, {"class C { a = 1; a", 7}, {"class C { a = 1; a ;", 7}, {"class C { a = 1; if() {} c = 1; if", 16},
		{"class C { constructor = 1; }", 3}, {"class C { constructor: T = 1; }", 3}, {"class C { constructor; }", 3}, {"class C { constructor }", 3}, {"class C { constructor", 3}, {"class C { a = 1; constructor = 1; }", 7},
		{"class C { constructor() {} constructor() {} }", 8}, {"class C { constructor() {} m() {} a = 1; constructor(", 17}, {"class C { constructor() {} constructor = 1; }", 8},
		{"class C { m(a, a) {} }", 7}, {"class C { m(a, b, a", 9}, {"class C { m(a: T, a: U) {} }", 9}, {"class C { constructor(a, b, b) {} }", 9}, {"class C { a(a, b) {} b(b, a) {} b = 1; }", 19},
		// Aliases.
		{"type T", 1}, {"type T ;", 1}, {"type T U = 1;", 1}, {"type T =", 3}, {"type T = ;", 3}, {"type T = 1;", 3}, {"type T = U", 4}, {"type T = U V;", 4}, {"type T = { a: U }", 7}, {"type if = U;", 1}, {"type T { }", 1}, {"type T = { a: U; a: V; };", 8},
		// Imports.
		{"import", 1}, {"import ;", 1}, {"import if;", 1}, {"import 1;", 1}, {"import 'x'", 2}, {"import 'x' from 'y';", 2}, {"import 'x', a;", 2}, {"import from 'x';", 2}, {"import a", 2}, {"import a;", 2}, {"import a 'x';", 2}, {"import a from", 3}, {"import a from ;", 3}, {"import a from x;", 3}, {"import a from 'x'", 4}, {"import a from 'x' }", 4}, {"import a as b from 'x';", 2},
		{"import a, from 'x';", 3}, {"import a, b from 'x';", 3}, {"import a, { b }, c from 'x';", 6}, {"import { a }, b from 'x';", 4}, {"import a, * as b, { c } from 'x';", 6}, {"import * as a, { b } from 'x';", 4}, {"import * from 'x';", 2}, {"import * as if from 'x';", 3}, {"import * as from 'x';", 4}, {"import * a from 'x';", 2}, {"import *, a from 'x';", 2},
		{"import {", 2}, {"import { , } from 'x';", 2}, {"import { a b } from 'x';", 3}, {"import { a,, } from 'x';", 4}, {"import { a; } from 'x';", 3}, {"import { a as } from 'x';", 4}, {"import { a as if } from 'x';", 4}, {"import { if, a } from 'x';", 3}, {"import { 'a' as b } from 'x';", 2}, {"import { a as b as c } from 'x';", 5}, {"import { * as b } from 'x';", 2}, {"import { a } 'x';", 4}, {"import { a };", 4}, {"import { a } from 'x', 'y';", 6}, {"import { as as } from 'x';", 4}, {"import { if as } from 'x';", 4}, {"import { type T } from 'x';", 3}, {"import { a: b } from 'x';", 3},
		{"import type {} from './x';", 3}, {"import type { , } from 'x';", 3}, {"import type * as a from 'x';", 2}, {"import type T, * as a from 'x';", 4}, {"import type 'x';", 2}, {"import type;", 2}, {"import type T;", 3}, {"import type from;", 3}, {"import type from, 'x';", 4}, {"import type from 'x'", 4}, {"import type T 'x';", 3}, {"import type if from 'x';", 2}, {"import type type T from 'x';", 3}, {"import type, T from 'x';", 3}, {"import type { T };", 5}, {"import type { if } from 'x';", 4},
		// Exports.
		{"export", 1}, {"export ;", 1}, {"export a;", 1}, {"export 1;", 1}, {"export 'x';", 1}, {"export if (a) {}", 1}, {"export import 'x';", 1}, {"export export let a = 1;", 1}, {"export from 'x';", 1}, {"export namespace n { }", 1}, {"export return;", 1}, {"export a = 1;", 1}, {"export (a);", 1},
		{"export let;", 2}, {"export let a;", 3}, {"export const a = 1", 5}, {"export function () {}", 2}, {"export function f() {", 6}, {"export class {}", 2}, {"export class C { a; }", 5}, {"export type;", 2}, {"export type = 5;", 2}, {"export type T;", 3}, {"export type T U;", 3}, {"export type T = ;", 4}, {"export type T = U", 5}, {"export type if = U;", 2}, {"export type 'x';", 2},
		{"export default", 2}, {"export default ;", 2}, {"export default a", 3}, {"export default a b;", 3}, {"export default let a = 1;", 2}, {"export default const a = 1;", 2}, {"export default if (a) {}", 2}, {"export default function () {}", 3}, {"export default class {}", 3}, {"export default type T = U;", 3}, {"export default 1 = 2;", 3}, {"export default { a: 1 }", 7}, {"export default default;", 2}, {"export default import 'x';", 2},
		{"export {};", 2}, {"export {} from 'x';", 2}, {"export { , };", 2}, {"export { a", 3}, {"export { a b };", 3}, {"export { a,, };", 4}, {"export { a as };", 4}, {"export { a as b as c };", 5}, {"export { a; };", 3}, {"export { 'a' };", 2}, {"export { a as 'b' };", 4}, {"export { 1 };", 2}, {"export { a }", 4}, {"export { a } a;", 4}, {"export { a } 'x';", 4}, {"export { as as };", 4}, {"export { * };", 2}, {"export { a: b };", 3},
		{"export { if };", 4}, {"export { if }", 4}, {"export { if } a;", 4}, {"export { if as a };", 6}, {"export { a, if as a, b };", 10}, {"export { a as if, if as a };", 10}, {"export { default, if };", 6}, {"export { if } 'x';", 4}, {"export { if, } type;", 5},
		{"export { a } from", 5}, {"export { a } from;", 5}, {"export { a } from '';", 5}, {"export { if } from '';", 5}, {"export { a } from 'x'", 6}, {"export { a } from x;", 5}, {"export { a } from 'x', b;", 6}, {"export { a } from from 'x';", 5},
		{"export type {};", 3}, {"export type {} from 'x';", 3}, {"export type { if };", 5}, {"export type { if as T };", 7}, {"export type { T }", 5}, {"export type { T } from '';", 6}, {"export type * from 'x';", 2}, {"export type default T;", 2}, {"export type let a = 1;", 2}, {"export type type { T };", 3},
		{"export *", 2}, {"export *;", 2}, {"export * 'x';", 2}, {"export * from", 3}, {"export * from '';", 3}, {"export * from x;", 3}, {"export * from 'x'", 4}, {"export * as from 'x';", 4}, {"export * as a", 4}, {"export * as a;", 4}, {"export * as 'a' from 'x';", 3}, {"export * as a from '';", 5}, {"export * as a, b from 'x';", 4}, {"export * as a as b from 'x';", 4}, {"export *, { a } from 'x';", 2},
		// What else is no item.
		{"", 0}, {";", 0}, {"}", 0}, {"default 1;", 0}, {"else", 0}, {"from 'x';", 1}, {"as a;", 1}, {"constructor() {}", 3}, {"namespace {}", 1}, {"namespace n", 1}, {"namespace n;", 1}, {"{ type T = U; }", 2}, {"{ import 'x'; }", 1}, {"{ class C {} }", 1}, {"if (a) { export let b = 1; }", 5}, {"function f() { class C {} }", 5},
	} {
		holds(t, tokens(t, x.s), 0, "", x.place, api.ErrSyntax)
	}
}

// 7.1: a class's members in all orders: the tree has the fields, then the constructor, then the methods, else as they came.
func TestMemberOrders(t *testing.T) {
	members := []struct {
		place        int
		source, tree string
	}{
		{0, "a = 1; ", " (Field a _ 1)"}, {0, "b: T = 2; ", " (Field b :T 2)"}, {1, "constructor(c) { } ", " (Ctor (Params (Param c _)) (Block))"}, {2, "d() { } ", " (Method d (Params) _ (Block))"}, {2, "if(a): T { } ", " (Method if (Params (Param a _)) :T (Block))"},
	}
	var from func(order []int)
	from = func(order []int) {
		source, trees := "", [3]string{}
		for _, i := range order {
			source += members[i].source
			trees[members[i].place] += members[i].tree
		}
		l := tokens(t, "class C { "+source+"}")
		holds(t, l, 0, "(Class C"+trees[0]+trees[1]+trees[2]+")", len(l), api.OK)
		for i := range members {
			if !slices.Contains(order, i) {
				from(append(order[:len(order):len(order)], i))
			}
		}
	}
	from(nil)
}

// 7.1: of two members of one name the second is seen, whatever stands between and behind, and whichever kinds they have.
func TestMembersTwice(t *testing.T) {
	kinds := []string{"% = 1;", "%: T = 1;", "%() {}", "%(%): T { %; }"}
	for _, name := range []string{"a", "type", "if", "constructor"} {
		for _, one := range kinds {
			for _, two := range kinds {
				for _, between := range []string{"", "b = 1;", "b() { c; }", "b = 1; c: T = b; d(a) {}"} {
					if name == "if" && (one == kinds[3] || two == kinds[3]) {
						continue // a word is no param
					}
					if name == "constructor" {
						two = kinds[2]
						one = two
					}
					first := "class C { " + strings.ReplaceAll(one, "%", name) + between
					l := tokens(t, first+strings.ReplaceAll(two, "%", name)+" }")
					holds(t, l, 0, "", len(tokens(t, first)), api.ErrSyntax)
				}
			}
		}
	}
	// Names of one class are none of another, nor of its params, locals, or of the class itself.
	for _, s := range []string{"class a { a = 1; b() { let b = 1; } }", "class C { a(a, b) { } b(b, a) { } constructor(a, b) { } }"} {
		l := tokens(t, s)
		if n, at, err := Item(l, 0); n.Kind != api.Class || at != len(l) || err != api.OK {
			t.Errorf("%s: %d at %d", s, err, at)
		}
	}
	reads(t, false, "class A { a = 1; constructor() {} } class B { a = 1; constructor() {} }", "(Class A (Field a _ 1) (Ctor (Params) (Block))) (Class B (Field a _ 1) (Ctor (Params) (Block)))", 0, api.OK)
}

// 7.1: a token counts by its kind: words that are none are names, and names of words are no words.
func TestKinds(t *testing.T) {
	for _, s := range slices.Concat(classes(), imports(), exports()) {
		l := tokens(t, s.source)
		for i, old := range l {
			for _, kind := range []int{api.TokenEnd, 6, -1, 1 << 62, -1 << 63} {
				l[i] = api.Token{Kind: kind, Text: old.Text, N: old.N}
				n, at, err := Item(l, 0)
				// One that would say what stands ahead of it is refused with that.
				ahead := i - at
				if err != api.ErrSyntax || n.Kind != 0 || ahead < 0 || ahead > 1 {
					t.Errorf("%s with the kind %d at %d: %s, %d, %d", s.source, kind, i, told(n), at, err)
				}
			}
			l[i] = old
		}
	}
	odd := func(s string, at, kind int) []api.Token {
		l := tokens(t, s)
		l[at].Kind = kind
		return l
	}
	holds(t, odd("type T = U;", 0, api.TokenWord), 0, "", 0, api.ErrSyntax)
	holds(t, odd("type T = U;", 2, api.TokenText), 0, "", 1, api.ErrSyntax)
	holds(t, odd("import a from 'x';", 0, api.TokenName), 0, "", 1, api.ErrSyntax)
	holds(t, odd("import a from 'x';", 2, api.TokenWord), 0, "", 2, api.ErrSyntax)
	holds(t, odd("import a from 'x';", 3, api.TokenName), 0, "", 3, api.ErrSyntax)
	holds(t, odd("import { a as b } from 'x';", 3, api.TokenWord), 0, "", 3, api.ErrSyntax)
	holds(t, odd("import { if } from 'x';", 2, api.TokenName), 0, "(Import x (ImportOne if if))", 7, api.OK)
	holds(t, odd("import type T from 'x';", 1, api.TokenWord), 0, "", 1, api.ErrSyntax)
	holds(t, odd("import type from 'x';", 2, api.TokenWord), 0, "", 2, api.ErrSyntax)
	holds(t, odd("export let a = 1;", 1, api.TokenName), 0, "", 1, api.ErrSyntax)
	holds(t, odd("export type { a };", 1, api.TokenWord), 0, "", 1, api.ErrSyntax)
	holds(t, odd("export default a;", 1, api.TokenName), 0, "", 1, api.ErrSyntax)
	holds(t, odd("export * from 'x';", 1, api.TokenName), 0, "", 1, api.ErrSyntax)
	holds(t, odd("export { a as b };", 3, api.TokenSign), 0, "", 3, api.ErrSyntax)
	holds(t, odd("export { if };", 2, api.TokenName), 0, "(ExportFrom (ExportOne if _))", 5, api.OK)
	holds(t, odd("export { a };", 2, api.TokenWord), 0, "", 4, api.ErrSyntax)
	holds(t, odd("export { a } from 'x';", 5, api.TokenSign), 0, "", 5, api.ErrSyntax)
	holds(t, odd("class C { constructor() {} }", 3, api.TokenWord), 0, "", 3, api.ErrSyntax)
	holds(t, odd("class C { if = 1; }", 3, api.TokenName), 0, "(Class C (Field if _ 1))", 8, api.OK)
	holds(t, odd("class C { }", 0, api.TokenName), 0, "", 1, api.ErrSyntax)
	holds(t, odd("class C { }", 2, api.TokenWord), 0, "", 2, api.ErrSyntax)
}

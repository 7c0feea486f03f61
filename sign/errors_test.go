package sign

import (
	"fmt"
	"strings"
	"testing"

	"gusset/api"
	"gusset/types"
)

// props are the names and types of a record whose Size is one above their count.
func props(count int) string {
	s := ""
	for i := range count {
		s += fmt.Sprintf("p%d: number; ", i)
	}
	return s
}

// params are as many of one type.
func params(count int, text string) string {
	var l []string
	for i := range count {
		l = append(l, fmt.Sprintf("p%d: %s", i, text))
	}
	return strings.Join(l, ", ")
}

// rows are aliases of lists within one another, F of the Size 271: the tree of a module has no room for as many in one.
var rows = "type R = boolean; type D = number" + strings.Repeat("[]", 90) + "; type E = D" + strings.Repeat("[]", 90) + "; type F = E" + strings.Repeat("[]", 90) + "; "

// sized are trees of several kinds, of that Size.
func sized(size int) []string {
	return []string{
		"F" + strings.Repeat("[]", size-271),
		strings.Repeat("() => ", size-271) + "F",
		"{ " + props(size-1) + "}",
		"(" + params(size-2, "null") + ") => null",
		"{ a: { " + props(size-3) + "}; b: R; }",
		"(a: { " + props(size-5) + "}, b: R) => R[]",
		"(R | null | { " + props(size-4) + "})",
	}
}

// 16.1, 16.2: at the limit and past it, whatever kind the type is, in whatever item it stands.
func TestLimit(t *testing.T) {
	for size := 298; size <= 302; size++ {
		err := api.OK
		if size > 300 {
			err = api.ErrComplex
		}
		for _, text := range sized(size) {
			for _, item := range []string{
				"let x: ? = null;", "export const x: ? = null;", "type T = ?;", "class C { x: ? = null; }", "class C { constructor(a: number, x: ?) { } }",
				"import { T } from './b'; let x: T = null;", "let x: T = null; type T = U; type U = ?;", "let x: any | T = null; type T = ?;",
			} {
				holdSize(t, strings.ReplaceAll(item, "?", text), rows+"export type T = "+text+";", err)
			}
			typeSize(t, text, size)
		}
		typeSize(t, "number"+strings.Repeat("[]", size-1), size)
		typeSize(t, strings.Repeat("() => ", size-1)+"any", size)
	}
}

// holdSize holds whether Sign refuses an item as too large.
func holdSize(t *testing.T, item, other string, want api.Errno) {
	t.Helper()
	s, mod, err := Sign(linked(t, rows+item, other))
	if mod != 0 || err != want || isEmpty(s) != (want != api.OK) {
		t.Errorf("%.100s: module %d, the error %d, want %d", item, mod, err, want)
	}
}

// typeSize holds Type on a tree of that Size, and on what is laid about it.
func typeSize(t *testing.T, text string, size int) {
	t.Helper()
	l := linked(t, rows+"type S = null;")
	s, _, _ := Sign(l)
	for form, more := range map[string]int{"?": 0, "(?)[]": 1, "{ a: ?; }": 1, "() => ?": 1, "(a: ?) => R": 2, "(?)[] | S": 3} {
		got, err := Type(l, s, 0, tree(strings.ReplaceAll(form, "?", text)))
		if want := size + more; want > 300 && (err != api.ErrComplex || !isZero(got)) || want <= 300 && (err != api.OK || types.Size(got) != want) {
			t.Errorf("%s of %d: %d, the error %d", form, size, types.Size(got), err)
		}
	}
}

// 16.1: a Function's and a Method's TypeFn is limited as a whole; a Ctor's Params are not.
func TestLimitOfFunctions(t *testing.T) {
	for count := 297; count <= 301; count++ {
		err := api.OK
		if count+2 > 300 {
			err = api.ErrComplex
		}
		untyped := strings.ReplaceAll(params(count, "any"), ": any", "")
		for _, form := range []string{"function f(?): number { return 1; }", "function f(?) { }", "export default function f(?): null { return null; }", "class C { m(?) { } }", "class C { m(?): C { return this; } }"} {
			holdSize(t, strings.ReplaceAll(form, "?", params(count, "string")), "", err)
			holdSize(t, strings.ReplaceAll(form, "?", untyped), "", err)
		}
		holdSize(t, "class C { constructor("+params(count, "string")+") { } }", "", api.OK)
		holdSize(t, "class C { constructor("+untyped+") { } }", "", api.OK)
	}
	holdSize(t, "function f(a, b: { "+props(296)+"}) { }", "", api.OK)
	holdSize(t, "function f(a, b: { "+props(297)+"}) { }", "", api.ErrComplex)
	holdSize(t, "function f(): { "+props(298)+"} { return null; }", "", api.OK)
	holdSize(t, "function f(): { "+props(299)+"} { return null; }", "", api.ErrComplex)
	// What is said in a body is not declared.
	holdSize(t, "function f(): null { let x: { "+props(400)+"} = null; return null; } let y = function (a: { "+props(400)+"}) { };", "", api.OK)
	// Members and classes are as many as one likes.
	holdSize(t, "class C { "+strings.ReplaceAll(props(400), ": number;", ": { "+props(8)+"} = null;")+"}", "", api.OK)
}

// 16.1: a union is as large as what is left of it.
func TestLimitOfUnions(t *testing.T) {
	lists := func(count int) string {
		var l []string
		for i := range count {
			l = append(l, "{ p"+fmt.Sprint(i)+": null; }")
		}
		return strings.Join(l, " | ")
	}
	holdSize(t, "let x: "+strings.Repeat("number | ", 1000)+"string = 1;", "", api.OK)
	holdSize(t, "let x: "+lists(149)+" = 1;", "", api.OK)
	holdSize(t, "let x: null | "+lists(149)+" = 1;", "", api.OK)
	holdSize(t, "let x: null | any[] | "+lists(149)+" = 1;", "", api.ErrComplex)
	holdSize(t, "let x: "+lists(150)+" = 1;", "", api.ErrComplex)
	holdSize(t, "let x: "+lists(150)+" | any = 1;", "", api.OK)
	holdSize(t, "let x: any | "+lists(150)+" = 1;", "", api.OK)
	// But each alias is one by itself, and each part ahead of the whole.
	holdSize(t, "type T = "+lists(150)+"; let x: any | T = 1;", "", api.ErrComplex)
	holdSize(t, "let x: any | { "+props(300)+"} = 1;", "", api.ErrComplex)
	holdSize(t, "type T = "+lists(100)+"; type U = "+lists(149)+"; let x: T | U = 1; let y: T | U | T[] = 1;", "", api.ErrComplex)
	holdSize(t, "type T = "+lists(100)+"; type U = "+lists(149)+"; let x: T | U = 1; let y: U | T = 1;", "", api.OK)
}

// 16.1: an alias that comes back to itself, by whatever parts and modules; the number is that of the module whose item is signed.
func TestCircles(t *testing.T) {
	for _, source := range []string{
		"type A = A;", "type A = A[];", "type A = number | A;", "type A = { b: { a: A; }; };", "type A = (a: A) => null;", "type A = () => A;", "type A = any | A;", "export type A = null | A[];",
		"type A = B; type B = A;", "type B = A; type A = B;", "type A = B[]; type B = { c: C; }; type C = () => A;", "type A = { n: number; b: B; }; type B = B;", "let x: number = 1; type T = null; type A = { t: T; a: A; };",
		"let x: A = 1; type A = A;", "function f(a: A) { } type A = A;", "function f(): A { } type A = A;", "class C { a: A = 1; } type A = A;", "class C { constructor(a: A) { } } type A = A;", "class C { m(): A { } } type A = A;", "class C { } type A = C | A;",
		"import { A as B } from './a'; export type A = B;", "import { B } from './b'; export type A = B;", "import { C } from './b'; export type A = C[];",
	} {
		b := "import { A } from './a'; export type B = A[]; export { A as C };"
		if !strings.Contains(source, "./b") {
			b = ""
		}
		isRefused(t, all(source, b), 0, api.ErrType)
	}
	isRefused(t, all("import { A } from './b'; let x: A = 1;", "export type A = { a: A; };"), 0, api.ErrType)
	isRefused(t, all("import { A } from './b'; function f() { let x: A = 1; }", "export type A = { a: A; };"), 1, api.ErrType)
	isRefused(t, all("import './b'; let x: number = 1;", "import './c'; type B = null;", "let x: A = 1; type A = A;"), 2, api.ErrType)
	isRefused(t, all("import './b'; import './c';", "import { A } from './c'; export { A };", "export type A = A;"), 2, api.ErrType)
	isRefused(t, all("import './b'; import './c';", "import { A } from './c'; let x: A = 1;", "export type A = A;"), 1, api.ErrType)
	// No circle: twice the same, and classes between.
	isTops(t, all("type A = { b: B; c: B; }; type B = C[]; class C { a: A | null = null; }"), "A: { b: inst#0[]; c: inst#0[]; }; B: inst#0[]; C: class#0")
}

// 16.1: of several errors the first, by items, parts from the left on, each part ahead of the whole.
func TestFirstError(t *testing.T) {
	const circle, large = "A", "{ p0: number; p1: L; }"
	head := "import { A, L } from './b'; "
	b := "export type A = A[]; export type L = { " + props(298) + "};"
	for _, c := range []string{
		"let x: ? = 1; let y: ! = 1;", "let x: { b: ?; a: !; } = 1;", "let x: (a: ?, b: !) => null = 1;", "let x: (a: ?) => ! = 1;", "let x: ? | ! = 1;", "let x: { a: ?; b: { c: !; }; }[] = 1;", "let x: { a: { c: ?; }; b: !; } = 1;",
		"type T = ?; type U = !;", "let x: U = 1; type T = !; type U = ?;", "let x: { u: U; a: !; } = 1; type U = number | ?;", "let x: { u: U; } | ! = 1; type U = V[]; type V = { b: number; a: ?; };",
		"function f(a, b: ?, c: !) { }", "function f(a: ?): ! { }", "function f(): ? { } let x: ! = 1;", "let x: ? = 1; function f(): ! { }",
		// A class's parts stand in its tree as fields, constructor, methods.
		"class C { b: ? = 1; a: ! = 1; }", "class C { constructor(a: ?, b: !) { } }", "class C { constructor(a: !) { } a: ? = 1; }", "class C { m(): ! { } constructor(a: ?) { } }", "class C { m(a: !) { } a: ? = 1; }", "class C { m(a: ?): ! { } }", "class C { z(a: ?) { } a(a: !) { } }", "class C { a: ? = 1; } let x: ! = 1;", "let x: ? = 1; class C { a: ! = 1; }",
	} {
		for _, way := range []string{"", "export "} {
			item := way + c
			isRefused(t, all(head+strings.NewReplacer("?", circle, "!", large).Replace(item), b), 0, api.ErrType)
			isRefused(t, all(head+strings.NewReplacer("?", large, "!", circle).Replace(item), b), 0, api.ErrComplex)
		}
	}
	// A whole that is too large stands behind its parts, ahead of what stands to the right of it.
	isRefused(t, all(head+"let x: L[][] | A = 1;", b), 0, api.ErrComplex)
	isRefused(t, all(head+"let x: { l: L; m: A; } = 1;", b), 0, api.ErrType)
	isRefused(t, all(head+"function f(l: L, m: L, n: A) { }", b), 0, api.ErrType)
	isRefused(t, all(head+"function f(l: L, m: L, n: L) { } let x: A = 1;", b), 0, api.ErrComplex)
	isRefused(t, all(head+"class C { m(l: L, m: L) { } n(a: A) { } }", b), 0, api.ErrComplex)
	isRefused(t, all(head+"class C { constructor(l: L, m: L) { } n(a: A) { } }", b), 0, api.ErrType)
	// A circle is seen ahead of how large it would be.
	isRefused(t, all("type T0 = T1; "+chain(400, "type T%d = T%d[];")+"type T401 = T0;"), 0, api.ErrType)
	isRefused(t, all("type T0 = T1; "+chain(400, "type T%d = T%d[];")+"type T401 = null;"), 0, api.ErrComplex)
	isRefused(t, all("type T0 = T1; "+chain(400, "type T%d = T%d[];")+"type T401 = null; type X = X;"), 0, api.ErrComplex)
	isRefused(t, all("type X = X; type T0 = T1; "+chain(400, "type T%d = T%d[];")+"type T401 = null;"), 0, api.ErrType)
	// Modules go ahead of what is within them.
	isRefused(t, all("import './b'; import './c';", "let x: { l: { "+props(298)+"}[]; } = 1;", "type A = A;"), 1, api.ErrComplex)
	isRefused(t, all("import './b'; import './c';", "type A = A;", "let x: { l: { "+props(298)+"}[]; } = 1;"), 1, api.ErrType)
}

// chain are items of which each names the next one, numbered from 1 on.
func chain(count int, form string) string {
	var b strings.Builder
	for i := 1; i <= count; i++ {
		fmt.Fprintf(&b, form, i, i+1)
	}
	return b.String()
}

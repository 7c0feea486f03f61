package check

import (
	"strconv"
	"strings"
	"testing"

	"gusset/api"
)

// record is the text of a type of a Size: a record of numbers, with names that begin with some letters.
func record(size int, letters string) string {
	var s strings.Builder
	s.WriteString("{ ")
	for i := range size - 1 {
		s.WriteString(letters + strconv.Itoa(i) + ": number; ")
	}
	return s.String() + "}"
}

// large declares types A and B, C, D of some sizes, and what has them: a, b, c, d.
func large(sizes ...int) string {
	var s strings.Builder
	for i, size := range sizes {
		letter := string(rune('a' + i))
		s.WriteString("type " + strings.ToUpper(letter) + " = " + record(size, letter) + "; const " + letter + ": " + strings.ToUpper(letter) + " = read();")
	}
	return strings.ReplaceAll(s.String(), "read()", "[][0]") + " "
}

// 18.1: ErrComplex, at the tree whose type would be too large, and the last that is not.
func TestComplex(t *testing.T) {
	for _, c := range []struct {
		fits, large, text string
		sizes, larger     []int
	}{
		{"a || b;", "a || b;", "a || b", []int{150, 149}, []int{150, 150}},
		{"a && b;", "a && b;", "a && b", []int{150, 149}, []int{150, 150}},
		{"1 ? a : b;", "1 ? a : b;", "1 ? a : b", []int{150, 149}, []int{150, 150}},
		{"1 ? a : a;", "1 ? a : 5;", "1 ? a : 5", []int{300}, []int{300}},
		{"[a, b];", "[a, b, 1];", "[a, b, 1]", []int{149, 149}, []int{149, 149}},
		{"[a];", "[a];", "[a]", []int{299}, []int{300}},
		{"[a, a];", "[a, a];", "[a, a]", []int{299}, []int{300}},
		{"({ a, b });", "({ a, b });", "{ a: a, b: b }", []int{150, 149}, []int{150, 150}},
		{"({ x: a, x: b });", "({ x: a, x: b });", "{ x: a, x: b }", []int{300, 299}, []int{299, 300}},
		{"const f = function (x: A): B { };", "const f = function (x: A): B { };", "function (x: A): B {}", []int{150, 149}, []int{150, 150}},
		{"const f = (x: A) => 1;", "const f = (x: A) => 1;", "function (x: A) { return 1; }", []int{298}, []int{299}},
		{"{ function f(x: A, y): B { } }", "{ function f(x: A, y): B { } }", "function f(x: A, y): B {}", []int{150, 148}, []int{150, 149}},
		{"{ let x: A | B = a; }", "{ let x: A | B = a; }", "A | B", []int{150, 149}, []int{150, 150}},
		{"{ let x: A[] = []; }", "{ let x: A[] = []; }", "A[]", []int{299}, []int{300}},
		{"{ function f(x: A[]) { } }", "{ function f(x: A[]) { } }", "A[]", []int{297}, []int{300}},
		{"const f = function (): A[] { };", "const f = function (): A[] { };", "A[]", []int{298}, []int{300}},
		{"const f = (x: { p: A[]; }) => 1;", "const f = (x: { p: A[]; }) => 1;", "{ p: A[]; }", []int{296}, []int{300}},
	} {
		isWell(t, large(c.sizes...)+c.fits)
		isRefused(t, large(c.larger...)+c.large, c.text, api.ErrComplex)
	}
	// What is any has no parts, however large the others are; and what is asked of large types is no larger.
	isWell(t, large(300, 300)+"const v: any = 1; v ? v : a; a || v; [a, v, b]; a.a0 + b.b0; a === b; !a; typeof b; print(a); const f = (x: any) => a; f(a); [][0] = a;")
	// A Ctor has no type of its own.
	isWell(t, large(300, 300)+"class K { constructor(x: A, y: B) { } }")
	isRefused(t, "class K { constructor(x: number) { const f = (a: "+record(299, "x")+") => 1; } }", "function (a: "+strings.ReplaceAll(record(299, "x"), "  ", " ")+") { return 1; }", api.ErrComplex)
}

// 18.1: which of several errors is told, where one is that of a size.
func TestComplexOrder(t *testing.T) {
	l := "type L = " + record(150, "x") + "; const a: L = [][0]; "
	// The types of Params and answers come ahead of the block, and that ahead of the whole.
	isRefused(t, l+"const f = (x: L, y: L, z: L[][][]) => -'';", `-""`, api.ErrType)
	isRefused(t, l+"const f = (x: L, y: { a: L; b: L; c: L; }) => -'';", "{ a: L; b: L; c: L; }", api.ErrComplex)
	isRefused(t, l+"const f = function (x: L, y: L): { a: L; b: L; c: L; } { -''; };", "{ a: L; b: L; c: L; }", api.ErrComplex)
	isRefused(t, l+"{ let x: { a: L; b: L; c: L; } = -''; }", "{ a: L; b: L; c: L; }", api.ErrComplex)
	isRefused(t, l+"-''; { let x: { a: L; b: L; c: L; } = 1; }", `-""`, api.ErrType)
	// A name whose declaration says no type is any: its own place tells that.
	isRefused(t, l+"{ f(1, 2)(3); function f(x: { a: L; b: L; c: L; }) { } }", "{ a: L; b: L; c: L; }", api.ErrComplex)
	isRefused(t, l+"{ f(1).x - 1; function f(x: L, y: L) { } }", "function f(x: L, y: L) {}", api.ErrComplex)
	isRefused(t, l+"{ function f(x: L, y: L) { f(1, 2, 3) - 1; } }", "function f(x: L, y: L) { f(1, 2, 3) - 1; }", api.ErrComplex)
	isRefused(t, l+"{ x(); let x: { a: L; b: L; c: L; } = 1; }", "{ a: L; b: L; c: L; }", api.ErrComplex)
	isRefused(t, l+"{ f('', 1); function f(x: L, y: number) { } }", `""`, api.ErrType)
}

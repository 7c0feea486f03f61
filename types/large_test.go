package types

import (
	"slices"
	"strconv"
	"strings"
	"testing"

	"gusset/api"
)

// deepest is how many parts may be nested in one another.
const deepest = 1 << 16

// nested has types within one another, each laid about the one within.
func nested(inner api.Type, about func(api.Type) api.Type) api.Type {
	for range deepest - 2 {
		inner = about(inner)
	}
	return inner
}

// isLargeType holds all calls on a type that may be and is too large, and on one that differs from it in what is innermost.
func isLargeType(t *testing.T, a, b, bad api.Type, size int, text string) {
	t.Helper()
	if got := Size(a); got != size {
		t.Errorf("Size: %d, want %d", got, size)
	}
	if got := Check(a); got != api.ErrComplex {
		t.Errorf("Check: %d", got)
	}
	if got := Check(bad); got != api.ErrArg {
		t.Errorf("Check of what may not be: %d", got)
	}
	if got := Show(a); got != text {
		t.Errorf("Show: %d bytes, want %d", len(got), len(text))
	}
	if got := Show(bad); got != "?" {
		t.Errorf("Show of what may not be: %d bytes", len(got))
	}
	if Compare(a, b) != -1 || Compare(b, a) != 1 || Compare(a, a) != 0 {
		t.Error("Compare")
	}
	isUnion(t, "", api.ErrComplex, a)
	isUnion(t, "", api.ErrComplex, a, b, a)
	isUnion(t, "", api.ErrArg, a, anyType, bad)
	isUnion(t, "any", api.OK, a, anyType, b)
	isRecord(t, "", api.ErrComplex, slot("b", b), slot("a", a))
	isRecord(t, "", api.ErrArg, slot("b", b), slot("a", bad))
}

// R1: types within one another, as many as may be.
func TestDeep(t *testing.T) {
	const n = deepest - 2
	isLargeType(t, nested(number, list), nested(text, list), nested(one(0), list), n+1, "number"+strings.Repeat("[]", n))
	answer := func(x api.Type) api.Type { return fn(x) }
	isLargeType(t, nested(number, answer), nested(text, answer), nested(one(0), answer), n+1, strings.Repeat("() => ", n)+"number")
	param := func(x api.Type) api.Type { return fn(x, null) }
	isLargeType(t, nested(number, param), nested(text, param), nested(one(0), param), 2*n+1, strings.Repeat("(", n)+"number"+strings.Repeat(") => null", n))
	in := func(x api.Type) api.Type { return record("a", x) }
	isLargeType(t, nested(number, in), nested(text, in), nested(one(0), in), n+1, strings.Repeat("{ a: ", n)+"number"+strings.Repeat("; }", n))
}

// R1: unions within one another whose parts differ in what is innermost alone: each is held against the one ahead.
func TestDeepUnions(t *testing.T) {
	pair := func(inner api.Type) api.Type {
		for range 14 {
			inner = list(eitherOf(fn(inner, number), fn(inner, text)))
		}
		return inner
	}
	size, text1 := 1, "number"
	for range 14 {
		size = 2 + 2*(size+2)
		text1 = "(((" + text1 + ") => number) | ((" + text1 + ") => string))[]"
	}
	isLargeType(t, pair(number), pair(text), pair(one(0)), size, text1)
}

// R1: very many types in one list.
func TestWide(t *testing.T) {
	const n = 200_000
	f, either, rec := fn(sames(number, n)...), eitherOf(), record("")
	var slots []api.Slot
	for i := range n {
		name := "n" + strconv.Itoa(n+i)
		either.List = append(either.List, numbered(api.TypeInst, i))
		rec.Names, rec.List = append(rec.Names, name), append(rec.List, number)
		slots = append(slots, slot(name, number))
	}
	for _, x := range []api.Type{f, either, rec} {
		bad := x
		bad.List = slices.Clone(x.List)
		bad.List[n-1] = one(0)
		above := x
		above.List = slices.Clone(x.List)
		above.List[n-1] = one(api.TypeSpace)
		isLargeType(t, x, above, bad, n+1, Show(x))
	}
	slices.Reverse(slots)
	isRecord(t, "", api.ErrComplex, slots...)
	isRecord(t, "", api.ErrArg, append(slots, slot("n200000", number))...)
	isUnion(t, "number", api.OK, f.List...)
	isUnion(t, "", api.ErrComplex, either.List...)
	slices.Reverse(either.List)
	isUnion(t, "", api.ErrComplex, either.List...)
	isUnion(t, Show(list(f.List[0])), api.OK, sames(list(number), n)...)
	if got := len(Show(f)); got != len("() => number")+(n-1)*len("number, ")-len(", ") {
		t.Error(got, "bytes")
	}
}

// R1: many types at the limit, alike but for what is compared last.
func TestManyLarge(t *testing.T) {
	x, y := sized(api.TypeFn, 300), sized(api.TypeFn, 300)
	y.List[298] = text
	var l []api.Type
	for range 20_000 {
		l = append(l, x, y)
	}
	isUnion(t, "", api.ErrComplex, l...)
	isUnion(t, Show(x), api.OK, sames(x, 40_000)...)
	isUnion(t, "any", api.OK, append(l, anyType)...)
}

package types

import (
	"math"
	"testing"

	"gusset/api"
)

// isCheck holds Check and Show against whether a type may be.
func isCheck(t *testing.T, x api.Type, may bool) {
	t.Helper()
	want := api.ErrArg
	if may {
		want = api.OK
	}
	if got := Check(x); got != want {
		t.Errorf("Check(%s): %d, want %d", told(x), got, want)
	}
	if got := Show(x); (got != "?") != may {
		t.Errorf("Show(%s): %s", told(x), got)
	}
}

// 14.1, 14.5: each number as a Kind, with each N, Names and List that are alike for no two kinds.
func TestEachShape(t *testing.T) {
	kinds := []int{math.MinInt, -1, 0, 1, 2, 3, 4, 5, 6, 7, 8, 9, 10, 11, 12, 13, 14, 15, 1 << 32, 1<<32 + 2, math.MaxInt}
	numbers := []int{math.MinInt, -2, -1, 0, 1, 2, 300, 1 << 32, math.MaxInt}
	names := [][]string{nil, {}, {""}, {"a"}, {"a", "b"}, {"b", "a"}, {"a", "a"}, {"a", "aa"}, {"aa", "a"}, {"Z", "a"}, {"a", "Z"}, {"", "a"}, {"a", ""}, {"z", "ä"}, {"ä", "z"}, {"\xff", "\xff\x00"}, {"if", "1 x"}, {"a", "b", "c"}, {"a", "c", "b"}, {"a", "b", "b"}, {"b", "a", "c"}}
	lists := [][]api.Type{
		nil, {}, {number}, {anyType}, {list(number)}, {eitherOf(number, text)}, {{}}, {numbered(api.TypeNumber, 1)}, {numbered(api.TypeInst, -1)},
		{number, text}, {text, number}, {number, number}, {anyType, number}, {number, anyType}, {number, {}}, {{}, number},
		{number, eitherOf(number, text)}, {eitherOf(number, text), numbered(api.TypeInst, 0)}, {number, list(eitherOf(number, text))}, {number, list(anyType)},
		{list(text), list(number)}, {list(number), list(text)}, {fn(number, number), fn(text)}, {fn(text), fn(number, number)},
		{numbered(api.TypeInst, 10), numbered(api.TypeInst, 9)}, {numbered(api.TypeInst, 9), numbered(api.TypeInst, 10)}, {numbered(api.TypeClass, 1), numbered(api.TypeInst, 2)},
		{number, text, null}, {number, null, text}, {text, number, null}, {number, text, text}, {number, text, number}, {number, text, anyType}, {number, text, list(list(one(14)))},
	}
	seen := map[int]int{}
	for _, kind := range kinds {
		for _, n := range numbers {
			for _, names := range names {
				for _, l := range lists {
					x := api.Type{Kind: kind, N: n, Names: names, List: l}
					isCheck(t, x, isOf(x))
					if isOf(x) {
						seen[kind]++
					}
				}
			}
		}
	}
	// Two of the Names and two of the Lists are empty; a number that may be is 0, or one of six.
	for kind, want := range map[int]int{0: 0, 14: 0, api.TypeAny: 4, api.TypeUndef: 4, api.TypeInst: 24, api.TypeClass: 24, api.TypeSpace: 24, api.TypeList: 2 * 4} {
		if seen[kind] != want {
			t.Errorf("%d types of the kind %d may be", seen[kind], kind)
		}
	}
}

// 14.1: of each kind one thing that is not as it must be; of what may not be the text is ?.
func TestMayNotBe(t *testing.T) {
	for _, x := range []api.Type{
		{}, one(-1), one(14), one(api.TypeList), one(api.TypeFn), one(api.TypeEither),
		numbered(api.TypeNumber, 1), numbered(api.TypeAny, -1), numbered(api.TypeInst, -1), numbered(api.TypeClass, math.MinInt), numbered(api.TypeSpace, -1),
		{Kind: api.TypeNumber, Names: []string{"a"}}, {Kind: api.TypeInst, Names: []string{""}}, {Kind: api.TypeNull, List: []api.Type{null}}, {Kind: api.TypeSpace, List: []api.Type{null}},
		{Kind: api.TypeList, N: 1, List: []api.Type{null}}, {Kind: api.TypeList, Names: []string{"a"}, List: []api.Type{null}}, {Kind: api.TypeList, List: []api.Type{null, null}},
		{Kind: api.TypeRecord, N: 1}, record("a"), record("", null), record("a b", null), record("a", null, null), record("b a", null, null), record("a a", null, null),
		{Kind: api.TypeFn, N: 1, List: []api.Type{null}}, {Kind: api.TypeFn, Names: []string{"a"}, List: []api.Type{null}},
		{Kind: api.TypeEither, N: 1, List: []api.Type{number, text}}, {Kind: api.TypeEither, Names: []string{"a", "b"}, List: []api.Type{number, text}},
		eitherOf(number), eitherOf(text, number), eitherOf(number, number), eitherOf(anyType, number), eitherOf(anyType, anyType), eitherOf(eitherOf(number, text), null), eitherOf(null, eitherOf(number, text)),
		eitherOf(list(text), list(number)), eitherOf(record("b", number), record("a", number)), eitherOf(record("a b", number, number), record("c", number)), eitherOf(fn(number, number), fn(text)),
	} {
		isCheck(t, x, false)
		isCheck(t, list(x), false)
		isCheck(t, fn(number, x, number), false)
		isCheck(t, record("a b", number, list(fn(x))), false)
		isUnion(t, "", api.ErrArg, x)
	}
}

// 14.1: a type may be just if all within may be, however deep.
func TestSpoilt(t *testing.T) {
	may := 0
	for seed := range int64(30000) {
		c := by(seed)
		x := c.any(5)
		if parts(x) > 300 {
			continue
		}
		isCheck(t, x, isOf(x))
		if isOf(x) {
			may++
		}
	}
	if may < 10000 || may > 27000 {
		t.Error(may, "types may be")
	}
}

// sized is a type of that Size, with what lies about it of a kind of types.
func sized(kind, size int) api.Type {
	x := number
	switch kind {
	case api.TypeList:
		for range size - 1 {
			x = list(x)
		}
	case api.TypeFn:
		x = fn(sames(number, size-1)...)
	case api.TypeRecord:
		x = record("")
		for i := range size - 1 {
			x.Names, x.List = append(x.Names, string(rune(0x100+i))), append(x.List, number)
		}
	case api.TypeEither:
		x = eitherOf()
		for i := range size - 1 {
			x.List = append(x.List, numbered(api.TypeInst, i))
		}
	}
	return x
}

func sames(x api.Type, n int) []api.Type {
	l := make([]api.Type, n)
	for i := range l {
		l[i] = x
	}
	return l
}

// 14.1, 14.3, 14.4, 14.5: below the limit, at it, past it; what is too large may be, so that it is shown.
func TestLimit(t *testing.T) {
	if api.MaxType != 300 {
		t.Fatal(api.MaxType)
	}
	for _, kind := range []int{api.TypeList, api.TypeFn, api.TypeRecord, api.TypeEither} {
		for size := 297; size <= 303; size++ {
			x := sized(kind, size)
			want, wantWithin := api.OK, api.OK
			if size > 300 {
				want = api.ErrComplex
			}
			if size >= 300 {
				wantWithin = api.ErrComplex
			}
			if got := Size(x); got != size {
				t.Fatalf("Size: %d, want %d", got, size)
			}
			if got := Check(x); got != want {
				t.Errorf("Check of %d: %d", size, got)
			}
			if got := Check(list(x)); got != wantWithin {
				t.Errorf("Check of %d and one: %d", size, got)
			}
			isUnion(t, Show(x), want, x)
			isUnion(t, Show(x), want, x, x, x)
			isUnion(t, "any", api.OK, x, anyType)
			isUnion(t, "", api.ErrArg, x, anyType, api.Type{})
			isRecord(t, "{ a: "+Show(x)+"; }", wantWithin, api.Slot{Name: "a", Type: x})
			if Show(x) == "?" {
				t.Errorf("what has the Size %d is not shown", size)
			}
			isArgAheadOfComplex(t, x)
		}
	}
}

// isArgAheadOfComplex spoils what may be too large: that it may not be is told first.
func isArgAheadOfComplex(t *testing.T, x api.Type) {
	t.Helper()
	bad := fn(x, one(14))
	if got := Check(bad); got != api.ErrArg {
		t.Errorf("Check: %d", got)
	}
	isUnion(t, "", api.ErrArg, x, bad)
	isUnion(t, "", api.ErrArg, bad, anyType)
	isRecord(t, "", api.ErrArg, api.Slot{Name: "a", Type: bad})
	isRecord(t, "", api.ErrArg, api.Slot{Name: "a", Type: x}, api.Slot{Name: "a", Type: x})
	isRecord(t, "", api.ErrArg, api.Slot{Name: "b", Type: x}, api.Slot{Name: "a", Type: x}, api.Slot{Name: "c", Type: one(0)})
}

// 14.1: Size is that of the parts alone, whether they may be or not.
func TestSize(t *testing.T) {
	for seed := range int64(5000) {
		c := by(seed)
		x := c.any(6)
		if got := Size(x); got != parts(x) {
			t.Fatalf("Size(%s): %d, want %d", told(x), got, parts(x))
		}
	}
	if got := Size(api.Type{Kind: -5, N: 7, Names: []string{"a", "b"}, List: []api.Type{{}, {List: []api.Type{{}, {}}}}}); got != 5 {
		t.Error(got)
	}
}

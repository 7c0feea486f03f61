package sub

import (
	"math"
	"strconv"
	"testing"

	"gusset/api"
	"gusset/types"
)

// isMember holds Member against a type, or, where that is zero, against none.
func isMember(t *testing.T, of api.Type, name string, classes []api.ClassInfo, want api.Type, wantOk bool) {
	t.Helper()
	got, ok := Member(of, name, classes)
	if ok != wantOk || told(got) != told(want) {
		t.Errorf("Member(%s, %s): %s, %v", brief(of), name, brief(got), ok)
	}
}

// 15.2: the rules one by one.
func TestMember(t *testing.T) {
	classes := classesOf("x: number; y: string; length: null;", "x: string; self: inst1; m: (a: inst0) => inst1;", "", "x: any; y: number | null;")
	for _, c := range []struct{ of, name, want string }{
		{"string | number[]", "length", "number"}, {"any", "a", "any"}, {"any", "length", "any"}, {"any", "", "any"},
		{"string", "length", "number"}, {"number[]", "length", "number"}, {"any[][]", "length", "number"},
		{"{ x: number; y: string[]; }", "x", "number"}, {"{ x: number; y: string[]; }", "y", "string[]"}, {"{ length: string; }", "length", "string"}, {"{ if: any; }", "if", "any"}, {"{ f: (a: number) => null; }", "f", "(a: number) => null"},
		{"inst0", "x", "number"}, {"inst0", "y", "string"}, {"inst0", "length", "null"}, {"inst1", "self", "inst1"}, {"inst1", "m", "(a: inst0) => inst1"},
		{"inst0 | inst1", "x", "number | string"}, {"{ x: null; } | inst0 | inst1", "x", "number | string | null"}, {"inst0 | inst1 | inst3", "x", "any"}, {"inst0 | inst3", "y", "number | string | null"},
		{"string | { length: boolean; } | inst0", "length", "number | boolean | null"}, {"{ x: number; } | { x: number; y: null; }", "x", "number"}, {"{ x: number | string; } | { x: string | null; }", "x", "number | string | null"},
	} {
		isMember(t, typ(c.of), c.name, classes, typ(c.want), true)
	}
	for _, c := range [][2]string{
		{"number", "length"}, {"boolean", "length"}, {"null", "length"}, {"undefined", "length"}, {"() => any", "length"}, {"class0", "x"}, {"class0", "length"}, {"space0", "x"},
		{"string", "x"}, {"string", ""}, {"string", "Length"}, {"string", "length "}, {"number[]", "push"}, {"number[]", "0"}, {"{ x: number[]; }", "length"}, {"{ x: number; }", "y"}, {"{ x: number; }", ""}, {"{}", "x"},
		{"inst0", "z"}, {"inst2", "x"}, {"inst4", "x"}, {"inst9223372036854775807", "x"}, {"inst0 | inst2", "x"}, {"inst2 | inst0", "x"}, {"inst0 | null", "x"}, {"number | string", "length"}, {"string | undefined", "length"},
		{"{ x: any; } | { y: any; }", "x"}, {"{ x: any; } | { y: any; }", "y"},
	} {
		isMember(t, typ(c[0]), c[1], classes, api.Type{}, false)
	}
	isMember(t, typ("inst0"), "x", nil, api.Type{}, false)
}

// 15.2: where Union refuses there is none: what the parts have is too large together, or may not be.
func TestMemberRefused(t *testing.T) {
	f, g := sized(api.TypeFn, 150), sized(api.TypeFn, 150)
	g.List[0] = typ("null")
	classes := []api.ClassInfo{{Members: []api.Slot{slot("x", f)}}, {Members: []api.Slot{slot("x", g)}}}
	both := typ("inst0 | inst1")
	isMember(t, both, "x", classes, api.Type{}, false)
	g.List = g.List[:148]
	classes[1].Members[0].Type = g
	isMember(t, both, "x", classes, eitherOf(g, f), true)
	for _, bad := range refused() {
		classes[0].Members[0].Type = bad
		isMember(t, both, "x", classes, api.Type{}, false)
		isMember(t, typ("inst1"), "x", classes, g, true)
	}
	classes[0].Members[0].Type = sized(api.TypeFn, 301)
	classes[1].Members[0].Type = typ("any")
	want, err := types.Union(classes[0].Members[0].Type, typ("any"))
	isMember(t, both, "x", classes, want, err == api.OK)
}

// 15.2: of types that may not be their kind decides; none is there where the words give none.
func TestMemberOfWrong(t *testing.T) {
	n, s := typ("number"), typ("string")
	isMember(t, numbered(api.TypeAny, 7), "a", nil, typ("any"), true)
	isMember(t, one(api.TypeList), "length", nil, n, true)
	isMember(t, one(api.TypeEither), "length", nil, api.Type{}, false)
	isMember(t, eitherOf(s), "length", nil, n, true)
	isMember(t, eitherOf(s, eitherOf(s, list(n))), "length", nil, n, true)
	isMember(t, eitherOf(typ("any"), record("x", n)), "x", nil, typ("any"), true)
	wrong := api.Type{Kind: api.TypeRecord, Names: []string{"b", "a", "a", "c"}, List: []api.Type{n, s, n}}
	isMember(t, wrong, "a", nil, s, true)
	isMember(t, wrong, "b", nil, n, true)
	isMember(t, wrong, "c", nil, api.Type{}, false)
	isMember(t, wrong, "d", nil, api.Type{}, false)
	classes := members(slot("z", n), slot("a", s), slot("z", s))
	isMember(t, typ("inst0"), "z", classes, n, true)
	for _, number := range []int{-1, math.MinInt, 1, math.MaxInt} {
		isMember(t, numbered(api.TypeInst, number), "z", classes, api.Type{}, false)
	}
	for _, kind := range []int{math.MinInt, -1, 0, 14, math.MaxInt} {
		isMember(t, api.Type{Kind: kind, Names: []string{"z"}, List: []api.Type{n}}, "z", classes, api.Type{}, false)
	}
	for _, bad := range refused() {
		isMember(t, api.Type{Kind: api.TypeRecord, Names: []string{"x"}, List: []api.Type{bad}}, "x", nil, bad, true)
		isMember(t, typ("inst0"), "x", members(slot("x", bad)), bad, true)
	}
}

// 15.2: types and classes by chance, against the model.
func TestMemberMade(t *testing.T) {
	seen := 0
	for seed := range int64(10_000) {
		c := by(seed)
		classes, x := c.classes(3), c.may(4)
		if seed%2 == 0 {
			x = must(types.Union(must(types.Record(c.slots(2))), must(types.Record(c.slots(2))), numbered(api.TypeInst, c.Intn(3))))
		}
		for _, name := range append(c.names, "d") {
			want, ok := memberOf(x, name, classes)
			isMember(t, x, name, classes, want, ok)
			if ok && x.Kind == api.TypeEither {
				seen++
			}
		}
	}
	if seen < 100 {
		t.Error(seen)
	}
}

// isJoin holds Join against a type, or an error.
func isJoin(t *testing.T, a, b, want api.Type, wantErr api.Errno) {
	t.Helper()
	got, err := Join(a, b)
	if err != wantErr || told(got) != told(want) {
		t.Errorf("Join(%s, %s): %s, %d, want %s, %d", brief(a), brief(b), brief(got), err, brief(want), wantErr)
	}
}

// 15.3: unions, and ErrType where types.Check refuses one.
func TestJoin(t *testing.T) {
	for _, c := range [][3]string{
		{"number", "string", "number | string"}, {"string", "number", "number | string"}, {"number", "number", "number"}, {"number", "any", "any"}, {"any", "number", "any"},
		{"number | string", "string | null", "number | string | null"}, {"number | string", "string", "number | string"}, {"number[]", "any[]", "any[] | number[]"}, {"{ x: number; }", "{}", "{} | { x: number; }"},
		{"inst0", "inst1", "inst0 | inst1"}, {"inst0", "class0", "inst0 | class0"},
	} {
		isJoin(t, typ(c[0]), typ(c[1]), typ(c[2]), api.OK)
	}
	for _, bad := range refused() {
		for _, text := range []string{"any", "number", "number | string"} {
			isJoin(t, bad, typ(text), api.Type{}, api.ErrType)
			isJoin(t, typ(text), bad, api.Type{}, api.ErrType)
		}
		isJoin(t, bad, bad, api.Type{}, api.ErrType)
	}
	isJoin(t, api.Type{}, sized(api.TypeFn, 301), api.Type{}, api.ErrType)
}

// 15.3: at the limit; what is too large only together is Union's to tell.
func TestJoinLimit(t *testing.T) {
	x := sized(api.TypeFn, 300)
	isJoin(t, x, x, x, api.OK)
	isJoin(t, x, typ("any"), typ("any"), api.OK)
	isJoin(t, x, typ("number"), api.Type{}, api.ErrComplex)
	isJoin(t, typ("number"), x, api.Type{}, api.ErrComplex)
	y := sized(api.TypeFn, 298)
	isJoin(t, y, typ("number"), eitherOf(typ("number"), y), api.OK)
	isJoin(t, sized(api.TypeFn, 299), typ("number"), api.Type{}, api.ErrComplex)
}

// 15.4: both are Sub of what they are joined to.
func TestJoinIsAbove(t *testing.T) {
	for seed := range int64(5000) {
		c := by(seed)
		a, b, classes := c.may(4), c.may(4), c.classes(3)
		j, err := Join(a, b)
		if err != api.OK {
			t.Fatal(err)
		}
		isSub(t, true, a, j, classes)
		isSub(t, true, b, j, classes)
	}
}

// R1: very many members, names and parts; types within one another, as many as may be.
func TestLarge(t *testing.T) {
	const n = 200_000
	var l []api.Slot
	wide := one(api.TypeEither)
	for i := range n {
		l = append(l, slot("n"+strconv.Itoa(i), numbered(api.TypeInst, i%7)))
		wide.List = append(wide.List, record("x", numbered(api.TypeInst, i%7)))
	}
	classes := members(l...)
	isSub(t, true, typ("inst0"), typ("{ n0: inst0; n199998: inst1; n199999: inst2; }"), classes)
	isSub(t, false, typ("inst0"), typ("{ n0: inst0; n199998: inst1; n199999: inst1; }"), classes)
	isMember(t, typ("inst0"), "n199999", classes, typ("inst2"), true)
	isMember(t, wide, "x", nil, typ("inst0 | inst1 | inst2 | inst3 | inst4 | inst5 | inst6"), true)
	isSub(t, false, wide, typ("any"), nil)
	isJoin(t, wide, typ("any"), api.Type{}, api.ErrType)
	deep, inEither := typ("string"), typ("string")
	for range 1<<16 - 2 {
		deep, inEither = list(deep), eitherOf(inEither)
	}
	isSub(t, false, deep, deep, nil)
	isSub(t, false, inEither, typ("any"), nil)
	isJoin(t, deep, deep, api.Type{}, api.ErrType)
	isMember(t, deep, "length", nil, typ("number"), true)
	isMember(t, inEither, "length", nil, typ("number"), true)
	isMember(t, record("x", typ("number")), "x", members(slot("x", deep)), typ("number"), true)
	isMember(t, typ("inst0"), "x", members(slot("x", deep)), deep, true)
}

// R1: as many pairs as types at the limit have.
func TestManyPairs(t *testing.T) {
	a, b := one(api.TypeEither), one(api.TypeEither)
	var bodies []string
	for i := range 299 {
		a.List = append(a.List, numbered(api.TypeInst, i))
		bodies = append(bodies, "n: number;")
	}
	for i := range 149 {
		b.List = append(b.List, record("m"+strconv.Itoa(100+i), typ("number")))
	}
	classes := classesOf(bodies...)
	isSub(t, false, a, b, classes)
	b.List[148] = record("n", typ("number"))
	isSub(t, true, a, b, classes)
	isSub(t, false, b, a, classes)
}

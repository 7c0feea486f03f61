package sub

import (
	"math"
	"testing"

	"gusset/api"
)

// isSub holds Sub of two against what is wanted.
func isSub(t *testing.T, want bool, a, b api.Type, classes []api.ClassInfo) {
	t.Helper()
	if got := Sub(a, b, classes); got != want {
		t.Errorf("Sub(%s, %s): %v", brief(a), brief(b), got)
	}
}

// areSubs holds pairs of texts.
func areSubs(t *testing.T, want bool, classes []api.ClassInfo, pairs [][2]string) {
	t.Helper()
	for _, p := range pairs {
		isSub(t, want, typ(p[0]), typ(p[1]), classes)
	}
}

// 15.1: the chapter's examples.
func TestSubExamples(t *testing.T) {
	areSubs(t, true, nil, [][2]string{
		{"number", "number | string"}, {"{ x: number; y: string; }", "{ x: number; }"},
		{"(a: number) => string", "(a: number, b: number) => string"}, {"(a: any) => string", "(a: number) => string | null"}, {"number[]", "any[]"},
	})
	isSub(t, false, typ("number | string"), typ("number"), nil)
}

// 15.1: types without parts stand for what is the same, and for any, alone.
func TestSubPlain(t *testing.T) {
	plain := []string{
		"number", "string", "boolean", "null", "undefined", "inst0", "inst1", "inst2", "inst9223372036854775807", "class0", "class1", "class2", "space0", "space1", "space2",
		"number[]", "{ z: number; }", "() => number",
	}
	classes := classesOf("x: number;", "x: number;")
	for i, a := range plain {
		for j, b := range plain {
			isSub(t, i == j, typ(a), typ(b), classes)
		}
		isSub(t, true, typ(a), typ("any"), classes)
		isSub(t, true, typ("any"), typ(a), classes)
	}
	isSub(t, true, typ("any"), typ("any"), nil)
	areSubs(t, true, nil, [][2]string{{"any", "number | string"}, {"number | string", "any"}, {"inst7", "any"}, {"any", "inst7"}, {"any", "{ a: number; }"}})
}

// 15.1: of a TypeEither each, for a TypeEither one.
func TestSubEither(t *testing.T) {
	areSubs(t, true, nil, [][2]string{
		{"number | string", "number | string"}, {"number | string", "number | string | null"}, {"number | null", "number | string | null"}, {"string | null", "number | string | null"},
		{"null", "number | string | null"}, {"string", "number | string | null"}, {"number", "number | string | null"},
		{"{ x: number; } | { x: string; }", "{ x: number | string; }"}, {"{ x: number; y: null; }", "{ x: number; } | { y: number; }"}, {"{ x: string; y: number; }", "{ x: number; } | { y: number; }"},
		{"number[] | string[]", "(number | string)[]"}, {"number[] | string[]", "any[]"}, {"number[] | string[]", "null | any[]"}, {"any[]", "number[] | string[]"},
		{"(() => number) | (() => string)", "() => number | string"}, {"(a: number | string) => null", "((a: number) => null) | ((a: string) => null)"},
		{"number[] | null", "(number | string)[] | null | undefined"},
	})
	areSubs(t, false, nil, [][2]string{
		{"number | string", "number"}, {"number | string", "string"}, {"number | string | null", "number | string"}, {"number | string | null", "string | null"}, {"number | string | null", "number | null"},
		{"boolean", "number | string"}, {"boolean | undefined", "number | string"}, {"number | boolean", "number | string"}, {"boolean | number", "string | number"},
		{"{ x: number | string; }", "{ x: number; } | { x: string; }"}, {"(number | string)[]", "number[] | string[]"}, {"{ x: number; } | { x: null; }", "{ x: number | string; }"},
		{"() => number | string", "(() => number) | (() => string)"}, {"((a: number) => null) | ((a: string) => null)", "(a: number | string) => null"},
		{"number[] | null", "number | null"},
	})
}

// 15.1: of lists the element.
func TestSubList(t *testing.T) {
	areSubs(t, true, nil, [][2]string{
		{"number[]", "number[]"}, {"any[]", "number[]"}, {"number[]", "(number | null)[]"}, {"number[][]", "(number | null)[][]"}, {"any[][]", "number[][]"}, {"any[]", "number[][]"},
		{"{ x: number; }[]", "{}[]"}, {"(() => number)[]", "(() => any)[]"},
	})
	areSubs(t, false, nil, [][2]string{
		{"number[]", "string[]"}, {"(number | null)[]", "number[]"}, {"number[]", "number[][]"}, {"number[][]", "number[]"}, {"(number | null)[][]", "number[][]"},
		{"number", "number[]"}, {"number[]", "number"}, {"{}[]", "{ x: number; }[]"}, {"number[]", "{}"}, {"number[]", "{ length: number; }"}, {"string", "{ length: number; }"}, {"{}", "any[]"},
	})
}

// 15.1: of functions no more parameters, each the other way round, and the answer.
func TestSubFn(t *testing.T) {
	areSubs(t, true, nil, [][2]string{
		{"() => number", "() => number"}, {"() => number", "() => number | string"}, {"() => number", "(a: string) => number"}, {"() => number", "(a: string, b: null) => any"},
		{"(a: number) => null", "(a: number) => null"}, {"(a: number | string) => null", "(a: number) => null"}, {"(a: number, b: any) => null", "(a: number, b: string) => null"},
		{"(a: {}) => null", "(a: { x: number; }) => null"}, {"(a: number | string, b: number) => null", "(a: string, b: number, c: null) => null | string"},
		{"(f: (a: number) => null) => null", "(f: (a: number | string) => null) => null"}, {"(f: (a: number, b: number) => null) => null", "(f: (a: number) => null) => null"},
		{"(f: (f: (a: number | string) => null) => null) => null", "(f: (f: (a: number) => null) => null) => null"},
		{"(a: number[]) => number[]", "(a: any[]) => any[]"},
	})
	areSubs(t, false, nil, [][2]string{
		{"() => number | string", "() => number"}, {"(a: string) => number", "() => number"}, {"(a: any) => number", "() => number"}, {"(a: number, b: number) => null", "(a: number) => null"},
		{"(a: number) => null", "(a: number | string) => null"}, {"(a: number, b: string) => null", "(a: number, b: number) => null"}, {"(a: string, b: number) => null", "(a: number, b: number) => null"},
		{"(a: number) => null", "(a: string, b: number) => null"}, {"(a: number) => string", "(a: number) => null"}, {"(a: number) => number", "(a: number, b: string) => string"},
		{"(a: { x: number; }) => null", "(a: {}) => null"}, {"(a: null) => null", "(a: number, b: null) => null"},
		{"(f: (a: number | string) => null) => null", "(f: (a: number) => null) => null"}, {"(f: (a: number) => null) => null", "(f: (a: number, b: number) => null) => null"},
		{"(f: (f: (a: number) => null) => null) => null", "(f: (f: (a: number | string) => null) => null) => null"},
		{"() => number", "number"}, {"number", "() => number"}, {"() => number", "{}"}, {"{}", "() => number"}, {"() => number", "number[]"}, {"class0", "() => inst0"},
	})
}

// 15.1: of a record each name of the other one.
func TestSubRecord(t *testing.T) {
	areSubs(t, true, nil, [][2]string{
		{"{}", "{}"}, {"{ x: number; }", "{}"}, {"{ x: number; }", "{ x: number; }"}, {"{ x: number; }", "{ x: number | null; }"}, {"{ x: any; }", "{ x: number; }"}, {"{ x: number; }", "{ x: any; }"},
		{"{ a: null; x: number; }", "{ x: number; }"}, {"{ x: number; z: null; }", "{ x: number; }"}, {"{ a: null; b: number; c: string; d: null; }", "{ a: null; c: string; }"},
		{"{ x: { y: number; z: number; }; }", "{ x: { y: number; }; }"}, {"{ x: number[]; f: () => number; }", "{ f: (a: number) => any; }"}, {"{ default: number; if: null; }", "{ if: null; }"},
	})
	areSubs(t, false, nil, [][2]string{
		{"{}", "{ x: number; }"}, {"{}", "{ x: any; }"}, {"{}", "{ x: undefined; }"}, {"{ x: number; }", "{ y: number; }"}, {"{ x: number; }", "{ x: string; }"}, {"{ x: number | null; }", "{ x: number; }"},
		{"{ x: number; }", "{ x: number; y: number; }"}, {"{ y: number; }", "{ x: number; y: number; }"}, {"{ x: number; y: string; }", "{ x: string; y: number; }"}, {"{ x: number; y: string; }", "{ x: number; y: number; }"}, {"{ x: string; y: number; }", "{ x: number; y: number; }"},
		{"{ x: { y: number; }; }", "{ x: { y: number; z: number; }; }"}, {"{ X: number; }", "{ x: number; }"},
		{"number", "{}"}, {"null", "{}"}, {"undefined", "{}"}, {"class0", "{}"}, {"space0", "{}"},
	})
}

// 15.1: of an instance what its class has; a number that classes has not has no members.
func TestSubInst(t *testing.T) {
	classes := classesOf("x: number; y: string;", "n: inst1 | null; m: (a: inst0) => inst1;", "", "b: { x: number; y: number; }; c: inst0; d: any;")
	areSubs(t, true, classes, [][2]string{
		{"inst0", "{}"}, {"inst2", "{}"}, {"inst0", "{ x: number; }"}, {"inst0", "{ y: string; }"}, {"inst0", "{ x: number; y: string; }"}, {"inst0", "{ x: number | null; }"}, {"inst0", "{ x: any; }"},
		{"inst1", "{ n: inst1 | null; }"}, {"inst1", "{ n: {} | null; }"}, {"inst1", "{ n: { n: { n: any; } | null; } | null; }"}, {"inst1", "{ m: (a: inst0) => { m: any; }; }"},
		{"inst3", "{ b: { x: number; }; c: { x: number; }; }"}, {"inst3", "{ c: { y: string; }; d: inst9; }"}, {"inst3", "{ c: inst0; }"},
		{"inst0 | inst3", "{}"}, {"inst0 | inst3", "{ x: number; } | { c: inst0; }"}, {"inst0", "{ z: null; } | { x: number; }"}, {"inst0[]", "{ x: number; }[]"}, {"(a: { x: number; }) => null", "(a: inst0) => null"},
		{"inst4", "{}"}, {"inst9223372036854775807", "{}"}, {"inst0 | { x: number; }", "{ x: number; }"},
	})
	areSubs(t, false, classes, [][2]string{
		{"inst0", "{ z: number; }"}, {"inst0", "{ x: string; }"}, {"inst0", "{ x: number; y: number; }"}, {"inst0", "{ x: number; y: string; z: any; }"}, {"inst2", "{ x: any; }"},
		{"inst1", "{ n: inst1; }"}, {"inst1", "{ n: inst0 | null; }"}, {"inst1", "{ n: { n: { x: any; } | null; } | null; }"}, {"inst1", "{ m: (a: inst1) => inst1; }"}, {"inst1", "{ m: (a: { x: number; y: string; }) => inst1; }"},
		{"inst3", "{ b: inst0; }"}, {"inst3", "{ c: inst1; }"}, {"inst0 | inst3", "{ x: number; }"}, {"inst0 | inst2", "{ x: number; }"},
		{"inst4", "{ x: any; }"}, {"inst9223372036854775807", "{ x: any; }"}, {"class0", "{ x: number; }"}, {"space0", "{ x: number; }"}, {"class0", "inst0"}, {"inst0", "class0"},
		{"{ x: number; y: string; }", "inst0"}, {"{}", "inst2"}, {"{}", "inst4"}, {"inst0", "inst3"}, {"(a: inst0) => null", "(a: { x: number; y: string; }) => null"},
	})
	areSubs(t, true, nil, [][2]string{{"inst0", "{}"}, {"inst0", "inst0"}})
	areSubs(t, false, nil, [][2]string{{"inst0", "{ x: any; }"}})
}

// 15.1: what a class's other parts say plays no part, nor does the order of its members; of a name that stands twice the first is taken.
func TestSubMembers(t *testing.T) {
	n, s := typ("number"), typ("string")
	classes := []api.ClassInfo{{Mod: 9, Name: "", Params: []api.Type{one(99)}, Members: []api.Slot{slot("z", n), slot("", s), slot("a", s), slot("z", s), slot("m", n)}}}
	areSubs(t, true, classes, [][2]string{{"inst0", "{ z: number; }"}, {"inst0", "{ a: string; m: number; z: number; }"}})
	areSubs(t, false, classes, [][2]string{{"inst0", "{ z: string; }"}, {"inst0", "{ b: string; }"}})
	isSub(t, true, typ("inst0"), record("", s), classes)
	isSub(t, false, typ("inst0"), record("", n), classes)
	isSub(t, true, typ("{ a: number; }"), api.Type{Kind: api.TypeRecord, Names: []string{}, List: []api.Type{}}, nil)
}

// refused are types that may not be, or are too large.
func refused() []api.Type {
	n, s := typ("number"), typ("string")
	return []api.Type{
		{}, one(-1), one(14), one(math.MaxInt), numbered(api.TypeNumber, 1), numbered(api.TypeAny, 1), numbered(api.TypeInst, -1), numbered(api.TypeClass, math.MinInt),
		{Kind: api.TypeNumber, Names: []string{"a"}}, {Kind: api.TypeAny, List: []api.Type{n}}, one(api.TypeList), one(api.TypeFn), one(api.TypeEither),
		eitherOf(n), eitherOf(s, n), eitherOf(n, n), eitherOf(one(api.TypeAny), n), eitherOf(n, eitherOf(n, s)),
		{Kind: api.TypeList, List: []api.Type{n, s}}, {Kind: api.TypeRecord, Names: []string{"a"}}, {Kind: api.TypeRecord, List: []api.Type{n}}, {Kind: api.TypeRecord, Names: []string{"b", "a"}, List: []api.Type{n, n}},
		list(api.Type{}), fn(n, one(99)), eitherOf(n, list(api.Type{})), {Kind: api.TypeRecord, Names: []string{"a"}, List: make([]api.Type, 1)},
		sized(api.TypeFn, 301), sized(api.TypeRecord, 301), sized(api.TypeEither, 301), list(sized(api.TypeFn, 300)),
	}
}

// 15.1: what types.Check refuses stands for nothing, and nothing for it; of a class's members, too.
func TestSubRefused(t *testing.T) {
	for _, bad := range refused() {
		classes := members(slot("bad", bad), slot("good", typ("number")))
		isSub(t, false, bad, bad, classes)
		for _, text := range []string{"any", "number", "number | string", "number[]", "any[]", "{}", "() => any", "inst0", "inst1"} {
			isSub(t, false, bad, typ(text), classes)
			isSub(t, false, typ(text), bad, classes)
		}
		areSubs(t, true, classes, [][2]string{{"inst0", "{}"}, {"inst0", "{ good: number; }"}})
		areSubs(t, false, classes, [][2]string{{"inst0", "{ bad: any; }"}, {"inst0", "{ bad: any; good: number; }"}, {"inst0", "{ bad: {}; }"}, {"inst0[]", "{ bad: any; }[]"}})
	}
}

// 15.1: at the limit types are as all others; a class's member may be at it while the instance is small.
func TestSubLimit(t *testing.T) {
	for _, kind := range []int{api.TypeFn, api.TypeRecord, api.TypeEither} {
		x := sized(kind, 300)
		isSub(t, true, x, x, nil)
		isSub(t, true, x, typ("any"), nil)
		isSub(t, false, x, typ("number"), nil)
		isSub(t, false, typ("number"), x, nil)
		isSub(t, true, typ("inst0"), typ("{ x: any; }"), members(slot("x", x)))
		isSub(t, false, typ("inst0"), typ("{ x: number; }"), members(slot("x", x)))
		isSub(t, false, typ("inst0"), typ("{ x: any; }"), members(slot("x", list(x))))
	}
	isSub(t, true, sized(api.TypeRecord, 300), sized(api.TypeRecord, 299), nil)
	isSub(t, false, sized(api.TypeRecord, 299), sized(api.TypeRecord, 300), nil)
	isSub(t, true, sized(api.TypeEither, 299), sized(api.TypeEither, 300), nil)
	isSub(t, false, sized(api.TypeEither, 300), sized(api.TypeEither, 299), nil)
}

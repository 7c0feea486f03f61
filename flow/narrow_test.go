package flow

import (
	"math"
	"strconv"
	"testing"

	"gusset/api"
	"gusset/types"
)

// A sample is a type with what facts leave of it.
type sample struct{ t, fact, left string }

func areLeft(t *testing.T, l []sample) {
	t.Helper()
	for _, s := range l {
		leaves(t, typ(s.t), fact(s.fact), typ(s.left))
	}
}

// 17.2: the chapter's examples.
func TestNarrowExamples(t *testing.T) {
	areLeft(t, []sample{
		{"number | string | null", "typeof string", "string"}, {"number | string | null", "not typeof object", "number | string"}, {"number | string | null", "not is null", "number | string"}, {"number", "typeof string", "number"},
	})
}

// facts are all that may be, of no name, with texts that name something, and with others.
func facts() []string {
	var l []string
	for _, not := range []string{"", "not "} {
		for _, text := range []string{"number", "string", "boolean", "undefined", "function", "object", "null", "any", "", "Number", "class"} {
			l = append(l, not+"typeof "+text, not+"is "+text)
		}
		l = append(l, not+"true")
	}
	return l
}

// 17.2: any is what a fact tells it to be, if that is one of few; else it stays any.
func TestNarrowAny(t *testing.T) {
	told := map[string]string{
		"typeof number": "number", "typeof string": "string", "typeof boolean": "boolean", "typeof undefined": "undefined", "is null": "null", "is undefined": "undefined",
	}
	for _, f := range facts() {
		want, ok := told[f]
		if !ok {
			want = "any"
		}
		areLeft(t, []sample{{"any", f, want}})
	}
}

// plain are types of each kind, with what typeof tells of them, whether they are null or undefined, and whether they may be true, or not so.
var plain = []struct {
	t, typeof, is   string
	isTrue, isFalse bool
}{
	{"number", "number", "", true, true}, {"string", "string", "", true, true}, {"boolean", "boolean", "", true, true},
	{"null", "object", "null", false, true}, {"undefined", "undefined", "undefined", false, true},
	{"any[]", "object", "", true, false}, {"null[]", "object", "", true, false}, {"(number | undefined)[]", "object", "", true, false}, {"{}", "object", "", true, false}, {"{ null: null; }", "object", "", true, false},
	{"() => undefined", "function", "", true, false}, {"(a: number) => any", "function", "", true, false},
	{"inst0", "object", "", true, false}, {"inst9", "object", "", true, false}, {"class0", "function", "", true, false}, {"class9", "function", "", true, false}, {"space0", "object", "", true, false}, {"space9", "object", "", true, false},
}

// mayBeSo tells what the chapter has of a plain type.
func mayBeSo(at int, f api.Fact) bool {
	p := plain[at]
	switch {
	case f.Kind == api.FactTypeof:
		return (p.typeof == f.Text) != f.Not
	case f.Kind == api.FactIs:
		return (p.is != "" && p.is == f.Text) != f.Not
	case f.Not:
		return p.isFalse
	}
	return p.isTrue
}

// 17.2: a type that is no union stays, whatever is said of it.
func TestNarrowPlain(t *testing.T) {
	for _, p := range plain {
		for _, f := range facts() {
			areLeft(t, []sample{{p.t, f, p.t}})
		}
	}
}

// 17.2: of two types the one that may be so; both, if both may or none.
func TestNarrowTwo(t *testing.T) {
	for i, a := range plain {
		for j, b := range plain[:i] {
			for _, text := range facts() {
				f := fact(text)
				want := "(" + a.t + ") | (" + b.t + ")"
				if mayBeSo(i, f) && !mayBeSo(j, f) {
					want = a.t
				}
				if mayBeSo(j, f) && !mayBeSo(i, f) {
					want = b.t
				}
				leaves(t, typ("("+a.t+") | ("+b.t+")"), f, typ(want))
			}
		}
	}
}

// 17.2: of many types those that may be so, as a union.
func TestNarrowMany(t *testing.T) {
	const all = "number | string | boolean | null | undefined | number[] | {} | { a: number; } | (() => null) | inst0 | inst1 | class0 | space0"
	const objects = "null | number[] | {} | { a: number; } | inst0 | inst1 | space0"
	areLeft(t, []sample{
		{all, "typeof number", "number"}, {all, "typeof string", "string"}, {all, "typeof boolean", "boolean"}, {all, "typeof undefined", "undefined"},
		{all, "typeof function", "(() => null) | class0"}, {all, "typeof object", objects}, {all, "typeof null", all}, {all, "typeof x", all},
		{all, "not typeof number", "string | boolean | undefined | (() => null) | class0 | " + objects}, {all, "not typeof undefined", "number | string | boolean | (() => null) | class0 | " + objects},
		{all, "not typeof object", "number | string | boolean | undefined | (() => null) | class0"}, {all, "not typeof function", "number | string | boolean | undefined | " + objects}, {all, "not typeof null", all}, {all, "not typeof x", all},
		{all, "is null", "null"}, {all, "is undefined", "undefined"}, {all, "is number", all}, {all, "is ", all}, {all, "not is x", all},
		{all, "not is null", "number | string | boolean | undefined | number[] | {} | { a: number; } | (() => null) | inst0 | inst1 | class0 | space0"},
		{all, "not is undefined", "number | string | boolean | null | number[] | {} | { a: number; } | (() => null) | inst0 | inst1 | class0 | space0"},
		{all, "true", "number | string | boolean | number[] | {} | { a: number; } | (() => null) | inst0 | inst1 | class0 | space0"},
		{all, "not true", "number | string | boolean | null | undefined"},
		{"null | undefined", "true", "null | undefined"}, {"null | undefined", "not true", "null | undefined"}, {"inst0 | null", "true", "inst0"}, {"inst0 | null", "not true", "null"}, {"inst0 | class0", "not true", "inst0 | class0"},
		{"null | undefined", "is null", "null"}, {"null | undefined", "not is null", "undefined"}, {"null | undefined", "typeof object", "null"}, {"null | undefined", "not typeof object", "undefined"},
		// What stands within a part plays no part.
		{"(number | null)[] | null", "not is null", "(number | null)[]"}, {"{ a: number | null; } | null", "typeof number", "{ a: number | null; } | null"}, {"(() => number | null) | null", "true", "() => number | null"},
		{"(any | null)[] | null", "not is null", "any[]"}, {"((a: null) => any) | any[]", "typeof function", "(a: null) => any"},
	})
}

// 17.2: the name of a fact plays no part, nor does the text of FactTrue.
func TestNarrowOther(t *testing.T) {
	for _, name := range []string{"", "x", "if", "\xff", "null"} {
		leaves(t, typ("number | null"), api.Fact{Name: name, Kind: api.FactIs, Text: "null"}, typ("null"))
		leaves(t, typ("any"), api.Fact{Name: name, Kind: api.FactTypeof, Text: "string"}, typ("string"))
		leaves(t, typ("number | null"), api.Fact{Name: name, Kind: api.FactTrue, Text: name}, typ("number"))
		leaves(t, typ("inst0 | null"), api.Fact{Name: name, Kind: api.FactTrue, Text: name, Not: true}, typ("null"))
		leaves(t, typ("any"), api.Fact{Name: name, Kind: api.FactTrue, Text: name}, typ("any"))
	}
}

// 17.2: zero, if the kind of the fact is none.
func TestNarrowNoKind(t *testing.T) {
	for _, kind := range []int{0, 4, 5, -1, math.MinInt, math.MaxInt} {
		for _, not := range []bool{false, true} {
			for _, text := range []string{"any", "number", "number | null", "inst0 | class0"} {
				leaves(t, typ(text), api.Fact{Name: "x", Kind: kind, Text: "null", Not: not}, api.Type{})
			}
			leaves(t, api.Type{}, api.Fact{Kind: kind, Not: not}, api.Type{})
		}
	}
}

// sized is a type of that Size, with more than one in its list.
func sized(kind, size int) api.Type {
	t := one(kind)
	for i := range size - 1 {
		t.List = append(t.List, numbered(api.TypeInst, i))
		if kind == api.TypeRecord {
			t.Names = append(t.Names, "n"+strconv.Itoa(1000+i))
		}
	}
	return t
}

// 17.2: zero of what types.Check refuses, also if what would be left might be.
func TestNarrowRefused(t *testing.T) {
	n, s, null := typ("number"), typ("string"), typ("null")
	refused := []api.Type{
		{}, one(-1), one(14), one(math.MaxInt), numbered(api.TypeNumber, 1), numbered(api.TypeAny, 1), numbered(api.TypeNull, -1), numbered(api.TypeInst, -1), numbered(api.TypeClass, math.MinInt),
		{Kind: api.TypeNumber, Names: []string{"a"}}, {Kind: api.TypeAny, List: []api.Type{n}}, {Kind: api.TypeAny, Names: []string{""}}, one(api.TypeList), one(api.TypeFn), one(api.TypeEither),
		eitherOf(n), eitherOf(null), eitherOf(s, n), eitherOf(null, n), eitherOf(n, n), eitherOf(null, null), eitherOf(typ("any"), null), eitherOf(n, eitherOf(n, s)), eitherOf(n, null, api.Type{}), eitherOf(n, null, one(14)),
		{Kind: api.TypeEither, N: 1, List: []api.Type{n, null}}, {Kind: api.TypeEither, Names: []string{"a", "b"}, List: []api.Type{n, null}},
		{Kind: api.TypeList, List: []api.Type{n, s}}, {Kind: api.TypeRecord, Names: []string{"a"}}, {Kind: api.TypeRecord, Names: []string{"b", "a"}, List: []api.Type{n, n}},
		list(api.Type{}), fn(n, one(99)), eitherOf(n, null, list(api.Type{})), eitherOf(n, null, list(eitherOf(n))),
		sized(api.TypeFn, 301), sized(api.TypeRecord, 301), sized(api.TypeEither, 301), list(sized(api.TypeFn, 300)), eitherOf(n, null, sized(api.TypeFn, 298)), eitherOf(n, null, list(sized(api.TypeEither, 299))),
	}
	for _, bad := range refused {
		if types.Check(bad) == api.OK {
			t.Fatalf("%s may be", shown(bad))
		}
		for _, f := range facts() {
			if got := Narrow(bad, fact(f)); !isZero(got) {
				t.Errorf("Narrow(%s, %s): %s", shown(bad), f, shown(got))
			}
		}
	}
}

// 17.2: at the limit of Size types are as all others.
func TestNarrowLimit(t *testing.T) {
	for _, kind := range []int{api.TypeFn, api.TypeRecord, api.TypeEither} {
		x := sized(kind, 300)
		for _, f := range facts() {
			leaves(t, x, fact(f), x)
		}
	}
	all := sized(api.TypeEither, 297)
	all.List = append([]api.Type{typ("number"), typ("null")}, all.List...)
	all.List = append(all.List, typ("class0"))
	if types.Size(all) != 300 || types.Check(all) != api.OK {
		t.Fatal(types.Size(all))
	}
	leaves(t, all, fact("typeof number"), typ("number"))
	leaves(t, all, fact("typeof function"), typ("class0"))
	leaves(t, all, fact("not true"), typ("number | null"))
	leaves(t, all, fact("not is undefined"), all)
	leaves(t, all, fact("typeof object"), api.Type{Kind: api.TypeEither, List: all.List[1:298]})
	leaves(t, eitherOf(typ("null"), sized(api.TypeFn, 298)), fact("true"), sized(api.TypeFn, 298))
}

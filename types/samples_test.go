package types

import (
	"fmt"
	"math"
	"strings"
	"testing"

	"gusset/api"
)

func one(kind int) api.Type           { return api.Type{Kind: kind} }
func numbered(kind, n int) api.Type   { return api.Type{Kind: kind, N: n} }
func list(t api.Type) api.Type        { return api.Type{Kind: api.TypeList, List: []api.Type{t}} }
func fn(l ...api.Type) api.Type       { return api.Type{Kind: api.TypeFn, List: l} }
func eitherOf(l ...api.Type) api.Type { return api.Type{Kind: api.TypeEither, List: l} }

// record is one of names with blanks between, and as many types.
func record(names string, l ...api.Type) api.Type {
	return api.Type{Kind: api.TypeRecord, Names: strings.Fields(names), List: l}
}

var (
	anyType, number, text = one(api.TypeAny), one(api.TypeNumber), one(api.TypeString)
	boolean, null, undef  = one(api.TypeBoolean), one(api.TypeNull), one(api.TypeUndef)
)

// told tells a type in full, so that two are told alike just if they are the same; a list that is empty may be nil.
func told(t api.Type) string {
	return string(appendTold(nil, t))
}

func appendTold(s []byte, t api.Type) []byte {
	s = fmt.Appendf(s, "%d/%d%q[", t.Kind, t.N, t.Names)
	for _, part := range t.List {
		s = append(appendTold(s, part), ' ')
	}
	return append(s, ']')
}

// brief tells as much of a type as a line has room for.
func brief(t api.Type) string {
	s := told(t)
	return s[:min(len(s), 500)]
}

// A sample is a type that may be, with its Size and its text.
type sample struct {
	t    api.Type
	size int
	text string
}

func samples() []sample {
	mixed := eitherOf(number, text)
	nothing := record("")
	back := fn(anyType)
	return []sample{
		{anyType, 1, "any"}, {number, 1, "number"}, {text, 1, "string"},
		{boolean, 1, "boolean"}, {null, 1, "null"}, {undef, 1, "undefined"},
		{numbered(api.TypeInst, 0), 1, "inst#0"}, {numbered(api.TypeInst, 3), 1, "inst#3"},
		{numbered(api.TypeClass, 0), 1, "class#0"}, {numbered(api.TypeClass, 12), 1, "class#12"},
		{numbered(api.TypeSpace, 0), 1, "space#0"}, {numbered(api.TypeSpace, math.MaxInt), 1, "space#9223372036854775807"},

		{list(number), 2, "number[]"}, {list(anyType), 2, "any[]"},
		{list(list(null)), 3, "null[][]"}, {list(mixed), 4, "(number | string)[]"},
		{list(back), 3, "(() => any)[]"}, {list(list(back)), 4, "(() => any)[][]"},
		{list(list(mixed)), 5, "(number | string)[][]"}, {list(nothing), 2, "{}[]"},
		{list(fn(mixed, anyType)), 6, "((number | string) => any)[]"},
		{list(numbered(api.TypeInst, 7)), 2, "inst#7[]"},

		{nothing, 1, "{}"}, {record("a", number), 2, "{ a: number; }"},
		{record("a b", text, number), 3, "{ a: string; b: number; }"},
		{record("A _ a aa b ä", anyType, number, text, boolean, null, undef), 7, "{ A: any; _: number; a: string; aa: boolean; b: null; ä: undefined; }"},
		{record("a", nothing), 2, "{ a: {}; }"}, {record("a", record("a", null)), 3, "{ a: { a: null; }; }"},
		{record("a b", mixed, back), 6, "{ a: number | string; b: () => any; }"},
		{record("default if", list(mixed), list(back)), 8, "{ default: (number | string)[]; if: (() => any)[]; }"},
		{api.Type{Kind: api.TypeRecord, Names: []string{""}, List: []api.Type{null}}, 2, "{ : null; }"},
		{api.Type{Kind: api.TypeRecord, Names: []string{"", "\x00\xff", " ", "z: any; "}, List: []api.Type{null, null, null, null}}, 5, "{ : null; \x00\xff: null;  : null; z: any; : null; }"},

		{back, 2, "() => any"}, {fn(number, text), 3, "(number) => string"},
		{fn(number, text, null), 4, "(number, string) => null"}, {fn(fn(number), text), 4, "(() => number) => string"},
		{fn(fn(back)), 4, "() => () => () => any"}, {fn(mixed, mixed), 7, "(number | string) => number | string"},
		{fn(number, number, number, number), 5, "(number, number, number) => number"}, {fn(list(back), list(mixed)), 8, "((() => any)[]) => (number | string)[]"},
		{fn(nothing, record("x", back)), 5, "({}) => { x: () => any; }"},

		{mixed, 3, "number | string"}, {eitherOf(number, text, null), 4, "number | string | null"},
		{eitherOf(number, text, boolean, null, undef), 6, "number | string | boolean | null | undefined"},
		{eitherOf(number, list(anyType), nothing, back, numbered(api.TypeInst, 1), numbered(api.TypeClass, 1), numbered(api.TypeSpace, 1)), 10, "number | any[] | {} | (() => any) | inst#1 | class#1 | space#1"},
		{eitherOf(back, fn(number)), 5, "(() => any) | (() => number)"}, {eitherOf(list(mixed), fn(mixed)), 9, "(number | string)[] | (() => number | string)"},
		{eitherOf(numbered(api.TypeInst, 1), numbered(api.TypeInst, 2), numbered(api.TypeInst, 10)), 4, "inst#1 | inst#2 | inst#10"},
		{eitherOf(record("a", mixed), record("b", number)), 7, "{ a: number | string; } | { b: number; }"},
		{list(eitherOf(null, list(mixed))), 7, "(null | (number | string)[])[]"},
	}
}

// 14.1, 14.5: of each kind types that may be, their Size and their text.
func TestSamples(t *testing.T) {
	for _, s := range samples() {
		if err := Check(s.t); err != api.OK {
			t.Errorf("Check(%s): %d", told(s.t), err)
		}
		if got := Size(s.t); got != s.size {
			t.Errorf("Size(%s): %d, want %d", told(s.t), got, s.size)
		}
		if got := Show(s.t); got != s.text {
			t.Errorf("Show(%s): %q, want %q", told(s.t), got, s.text)
		}
	}
}

// isUnion holds the union of some types against a text, or against an error where there is none.
func isUnion(t *testing.T, want string, wantErr api.Errno, l ...api.Type) {
	t.Helper()
	got, err := Union(l...)
	if err != wantErr || err == api.OK && Show(got) != want || err != api.OK && told(got) != told(api.Type{}) {
		t.Errorf("Union of %d: %s, %d, want %.500q, %d", len(l), brief(got), err, want, wantErr)
	}
}

func isRecord(t *testing.T, want string, wantErr api.Errno, l ...api.Slot) {
	t.Helper()
	got, err := Record(l)
	if err != wantErr || err == api.OK && Show(got) != want || err != api.OK && told(got) != told(api.Type{}) {
		t.Errorf("Record of %d: %s, %d, want %.500q, %d", len(l), brief(got), err, want, wantErr)
	}
}

// 14.1 to 14.5: the chapter's examples.
func TestExamples(t *testing.T) {
	mixed := eitherOf(number, text)
	isUnion(t, "number | string", api.OK, text, number, text)
	isUnion(t, "any", api.OK, number, anyType)
	isUnion(t, "number | string | null", api.OK, mixed, null)
	isUnion(t, "", api.ErrArg)
	isUnion(t, "", api.ErrArg, eitherOf(number))
	isRecord(t, "{ a: string; b: number; }", api.OK, api.Slot{Name: "b", Type: number}, api.Slot{Name: "a", Type: text})
	isRecord(t, "", api.ErrArg, api.Slot{Name: "a", Type: number}, api.Slot{Name: "a", Type: number})
	if got := Compare(number, text); got != -1 {
		t.Error(got)
	}
	if got := Size(list(number)); got != 2 {
		t.Error(got)
	}
	if got := Show(list(mixed)) + " " + Show(list(fn(anyType))); got != "(number | string)[] (() => any)[]" {
		t.Error(got)
	}
}

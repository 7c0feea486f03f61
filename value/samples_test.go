package value

import (
	"math"
	"testing"

	"gusset/api"
)

func number(n int) api.Value { return api.Value{Kind: api.ValueNumber, N: n} }

func word(text string) api.Value { return api.Value{Kind: api.ValueText, Text: text} }

func truth(n int) api.Value { return api.Value{Kind: api.ValueBool, N: n} }

func of(kind, n int) api.Value { return api.Value{Kind: kind, N: n} }

// The chapter's examples.
func TestExamples(t *testing.T) {
	h := New()
	a := h.Array([]api.Value{number(1), number(2)})
	if a != of(api.ValueArray, 0) {
		t.Error("Array:", a)
	}
	o := h.Object([]string{"a", "b", "a"}, []api.Value{number(1), number(2), number(3)})
	if o != of(api.ValueObject, 1) {
		t.Error("Object:", o)
	}
	if x, ok := h.Get(o, "a"); x != number(3) || !ok {
		t.Error("Get:", x, ok)
	}
	if !h.Put(a, 2, number(5)) || h.Len(a) != 3 || h.Put(a, 9, number(5)) || h.Len(a) != 3 {
		t.Error("Put, Len:", h.Len(a))
	}
	if x, ok := h.At(o, 0); x != (api.Value{}) || ok {
		t.Error("At:", x, ok)
	}
	if Typeof(of(api.ValueNull, 0)) != "object" || h.Text(number(-5)) != "-5" {
		t.Error("Typeof, Text:", Typeof(of(api.ValueNull, 0)), h.Text(number(-5)))
	}
}

// A said is what the chapter says of a value.
type said struct {
	v            api.Value
	truth        bool
	typeof, text string
}

// 23.1, 23.4: each kind of value, at the edges of its numbers and texts; a field that its kind does not have plays no part.
var all = []said{
	{api.Value{}, false, "undefined", "undefined"},
	{api.Value{N: 1, Text: "x"}, false, "undefined", "undefined"},
	{of(api.ValueNull, 0), false, "object", "null"},
	{api.Value{Kind: api.ValueNull, N: 1, Text: "x"}, false, "object", "null"},
	{truth(0), false, "boolean", "false"},
	{api.Value{Kind: api.ValueBool, Text: "true"}, false, "boolean", "false"},
	{truth(1), true, "boolean", "true"},
	{truth(2), true, "boolean", "true"},
	{truth(-1), true, "boolean", "true"},
	{number(0), false, "number", "0"},
	{api.Value{Kind: api.ValueNumber, Text: "1"}, false, "number", "0"},
	{number(1), true, "number", "1"},
	{number(-1), true, "number", "-1"},
	{number(10), true, "number", "10"},
	{number(-105), true, "number", "-105"},
	{api.Value{Kind: api.ValueNumber, N: 7, Text: "x"}, true, "number", "7"},
	{number(api.MaxSafe), true, "number", "9007199254740991"},
	{number(-api.MaxSafe), true, "number", "-9007199254740991"},
	{number(math.MaxInt), true, "number", "9223372036854775807"},
	{number(math.MinInt), true, "number", "-9223372036854775808"},
	{word(""), false, "string", ""},
	{api.Value{Kind: api.ValueText, N: 1}, false, "string", ""},
	{word("0"), true, "string", "0"},
	{word("false"), true, "string", "false"},
	{word(" \n"), true, "string", " \n"},
	{word("ä€\U0001F600"), true, "string", "ä€\U0001F600"},
	{word("\x00\xff"), true, "string", "\x00\xff"},
	{api.Value{Kind: api.ValueText, N: 3, Text: "t"}, true, "string", "t"},
	{of(api.ValueArray, 0), true, "object", "array"},
	{of(api.ValueArray, 1), true, "object", "array"},
	{of(api.ValueArray, -1), true, "object", "array"},
	{of(api.ValueObject, 0), true, "object", "object"},
	{of(api.ValueObject, 1), true, "object", "object"},
	{api.Value{Kind: api.ValueObject, Text: "x"}, true, "object", "object"},
	{of(api.ValueFunc, 0), true, "function", "function"},
	{of(api.ValueFunc, 1), true, "function", "function"},
	{of(api.ValueClass, 0), true, "function", "class"},
	{of(api.ValueClass, 1), true, "function", "class"},
	{of(api.ValueSpace, 0), true, "object", "namespace"},
	{of(api.ValueSpace, 1), true, "object", "namespace"},
	{of(10, 0), true, "object", ""},
	{api.Value{Kind: 10, N: 1, Text: "x"}, true, "object", ""},
	{of(-1, 0), true, "object", ""},
	{of(math.MaxInt, 1), true, "object", ""},
	{of(math.MinInt, 1), true, "object", ""},
}

// 23.1, 23.4, 23.5: Text asks nothing of the heap, be it nil, empty or full.
func TestPlain(t *testing.T) {
	full := New()
	for range 3 {
		full.Array([]api.Value{number(1)})
		full.Object([]string{"a"}, []api.Value{number(1)})
	}
	for _, s := range all {
		if got := Truth(s.v); got != s.truth {
			t.Errorf("Truth(%#v): %t", s.v, got)
		}
		if got := Typeof(s.v); got != s.typeof {
			t.Errorf("Typeof(%#v): %q, want %q", s.v, got, s.typeof)
		}
		for i, h := range []*Heap{nil, New(), {}, full} {
			if got := h.Text(s.v); got != s.text {
				t.Errorf("Text(%#v) of heap %d: %q, want %q", s.v, i, got, s.text)
			}
		}
	}
}

// alike is Same word by word.
func alike(a, b api.Value) bool {
	if a.Kind != b.Kind {
		return false
	}
	if a.Kind == api.ValueText {
		return a.Text == b.Text
	}
	allBut := a.Kind != api.ValueText && a.Kind != api.ValueUndef && a.Kind != api.ValueNull
	return !allBut || a.N == b.N
}

// 23.1: all pairs of values.
func TestSame(t *testing.T) {
	same, not := 0, 0
	for _, a := range all {
		for _, b := range all {
			want := alike(a.v, b.v)
			if got := Same(a.v, b.v); got != want {
				t.Errorf("Same(%#v, %#v): %t", a.v, b.v, got)
			}
			if want {
				same++
			} else {
				not++
			}
		}
		if !Same(a.v, a.v) {
			t.Errorf("%#v is not the Same", a.v)
		}
	}
	// Each with itself, and both of the pairs that differ in a field without meaning alone: two each of undefined, null, false, 0, "", the object 0.
	if want := len(all) + 2*6; same != want || not == 0 {
		t.Errorf("%d pairs are the Same, want %d; %d are not", same, want, not)
	}
	for _, pair := range [][2]api.Value{{number(1), truth(1)}, {number(0), {}}, {{}, of(api.ValueNull, 0)}, {word("1"), number(1)}, {word(""), {}},
		{of(api.ValueArray, 3), of(api.ValueObject, 3)}, {of(api.ValueFunc, 3), of(api.ValueClass, 3)}, {truth(1), truth(2)}, {number(0), number(-1)}, {word("a"), word("A")}} {
		if Same(pair[0], pair[1]) || Same(pair[1], pair[0]) {
			t.Errorf("%#v and %#v are the Same", pair[0], pair[1])
		}
	}
}

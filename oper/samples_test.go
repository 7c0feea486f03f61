package oper

import (
	"testing"

	"gusset/api"
	"gusset/value"
)

func num(n int) api.Value { return api.Value{Kind: api.ValueNumber, N: n} }

func word(s string) api.Value { return api.Value{Kind: api.ValueText, Text: s} }

func boolean(is bool) api.Value {
	if is {
		return api.Value{Kind: api.ValueBool, N: 1}
	}
	return api.Value{Kind: api.ValueBool}
}

func of(kind, n int) api.Value { return api.Value{Kind: kind, N: n} }

var (
	undef = api.Value{}
	null  = api.Value{Kind: api.ValueNull}
)

// holds tells a fault, if what was answered is not what was wanted; beside an end the value is zero.
func holds(t *testing.T, what string, v api.Value, end int, want api.Value, wantEnd int) {
	t.Helper()
	if v != want || end != wantEnd {
		t.Errorf("%s: %v, %d, want %v, %d", what, v, end, want, wantEnd)
	}
}

// The chapter's examples of operators.
func TestExamplesOperators(t *testing.T) {
	h := value.New()
	array := h.Array(nil)
	for _, c := range []struct {
		a    api.Value
		op   string
		b    api.Value
		want api.Value
		end  int
	}{
		{num(7), "/", num(-2), num(-3), api.EndDone},
		{num(7), "%", num(-2), num(1), api.EndDone},
		{num(-7), "%", num(2), num(-1), api.EndDone},
		{num(1), "/", num(0), undef, api.EndRange},
		{num(9007199254740991), "+", num(1), undef, api.EndRange},
		{word("a"), "+", num(1), word("a1"), api.EndDone},
		{null, "+", word("x"), word("nullx"), api.EndDone},
		{num(1), "+", boolean(true), undef, api.EndType},
		{word("a"), "+", array, undef, api.EndType},
		{word("a"), "<", word("b"), boolean(true), api.EndDone},
		{num(1), "<", word("b"), undef, api.EndType},
	} {
		v, end := Binary(h, c.op, c.a, c.b)
		holds(t, c.op, v, end, c.want, c.end)
	}
	v, end := Unary("-", word("a"))
	holds(t, "- of a text", v, end, undef, api.EndType)
}

// The chapter's examples of members, and of parse.
func TestExamplesMembers(t *testing.T) {
	h := value.New()
	array := h.Array([]api.Value{num(1), num(2)})
	v, end := Member(h, word("aä"), "length")
	holds(t, "length of a text", v, end, num(2), api.EndDone)
	v, end = Index(h, word("aä"), num(1))
	holds(t, "Index of a text", v, end, word("ä"), api.EndDone)
	v, end = Index(h, array, num(5))
	holds(t, "Index behind an array", v, end, undef, api.EndDone)
	if end := SetIndex(h, array, num(2), num(9)); end != api.EndDone || h.Len(array) != 3 {
		t.Error("SetIndex at the length:", end, h.Len(array))
	}
	if end := SetIndex(h, array, num(4), num(9)); end != api.EndRange || h.Len(array) != 3 {
		t.Error("SetIndex behind the length:", end, h.Len(array))
	}
	for s, want := range map[string]api.Value{"-5": num(-5), "05": undef, "-0": undef, "": undef} {
		v, end := Builtin(h, "parse", []api.Value{word(s)})
		holds(t, "parse of "+s, v, end, want, api.EndDone)
	}
	v, end = Member(h, null, "x")
	holds(t, "Member of null", v, end, undef, api.EndType)
}

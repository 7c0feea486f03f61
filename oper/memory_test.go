package oper

import (
	"slices"
	"testing"
	"unsafe"

	"gusset/api"
	"gusset/value"
)

// A caller has texts whose bytes it may change behind a call.
type caller struct{ all [][]byte }

func (c *caller) text(s string) string {
	b := []byte(s)
	c.all = append(c.all, b)
	return unsafe.String(unsafe.SliceData(b), len(b))
}

func (c *caller) word(s string) api.Value { return word(c.text(s)) }

func (c *caller) change() {
	for _, b := range c.all {
		for i := range b {
			b[i] = '?'
		}
	}
}

// answers are all texts that calls answer of the same arguments, beside what they should be.
func answers(h *value.Heap, c *caller) (got []api.Value, want []string) {
	tell := func(text string, v api.Value, _ int) {
		got, want = append(got, v), append(want, text)
	}
	told := func(op, text string, a, b api.Value) {
		v, end := Binary(h, op, a, b)
		tell(text, v, end)
	}
	told("+", "some text", c.word("some text"), c.word(""))
	told("+", "some text", c.word(""), c.word("some text"))
	told("+", "some text", c.word("some "), c.word("text"))
	told("+", "null text", null, c.word(" text"))
	told("+", "text 12", c.word("text "), num(12))
	v, end := Unary("typeof", c.word("x"))
	tell("string", v, end)
	v, end = Builtin(h, "text", []api.Value{c.word("a text")})
	tell("a text", v, end)
	v, end = Builtin(h, "text", []api.Value{of(api.ValueSpace, 0)})
	tell("namespace", v, end)
	v, end = Index(h, c.word("aä"), num(1))
	tell("ä", v, end)
	v, end = Member(h, of(api.ValueObject, 0), c.text("name"))
	tell("kept", v, end)
	v, end = Index(h, of(api.ValueObject, 0), c.word("name"))
	tell("kept", v, end)
	v, end = Index(h, of(api.ValueArray, 1), num(0))
	tell("kept", v, end)
	return got, want
}

func kept() *value.Heap {
	h := value.New()
	h.Object([]string{"name"}, []api.Value{word("kept")})
	h.Array([]api.Value{word("kept")})
	return h
}

// R4: what is answered is new memory: it shares none with what was handed in, with what is kept, with another answer, nor with the program's own texts.
func TestAnswersAreNew(t *testing.T) {
	h, c := kept(), &caller{}
	all, want := answers(h, c)
	more, again := answers(h, c)
	c.change()
	all, want = append(all, more...), append(want, again...)
	var at []*byte
	for i, v := range all {
		if v != word(want[i]) {
			t.Errorf("%d: %v, want %s", i, v, want[i])
		}
		p := unsafe.StringData(v.Text)
		if slices.Contains(at, p) {
			t.Errorf("%d: %s shares its memory", i, v.Text)
		}
		at = append(at, p)
	}
}

// R4: what is set is kept by the heap alone: its caller may change the bytes of names and texts.
func TestNothingKept(t *testing.T) {
	h, c := kept(), &caller{}
	o, a := of(api.ValueObject, 0), of(api.ValueArray, 1)
	args := []api.Value{a, c.word("pushed"), num(9)}[:2]
	if SetMember(h, o, c.text("first"), c.word("one")) != 0 || SetIndex(h, o, c.word("second"), c.word("two")) != 0 || SetIndex(h, a, num(0), c.word("three")) != 0 || SetIndex(h, a, num(1), c.word("four")) != 0 {
		t.Fatal("what is set is refused")
	}
	v, end := Builtin(h, "push", args)
	holds(t, "push", v, end, num(3), api.EndDone)
	if args[0] != a || args[1] != word("pushed") || args[:3][2] != num(9) {
		t.Error("the arguments are changed:", args[:3])
	}
	c.change()
	args[0], args[1] = num(5), num(5)
	for name, want := range map[string]string{"name": "kept", "first": "one", "second": "two"} {
		v, end := Member(h, o, name)
		holds(t, name, v, end, word(want), api.EndDone)
	}
	for i, want := range []string{"three", "four", "pushed"} {
		v, end := Index(h, a, num(i))
		holds(t, "Index", v, end, word(want), api.EndDone)
	}
	v, end = Member(h, o, "?????")
	holds(t, "a name that was never set", v, end, undef, api.EndDone)
}

// R5: the same call answers the same, at whatever else was asked between.
func TestAgain(t *testing.T) {
	h := kept()
	l := spots(h)
	for _, op := range ops {
		for _, a := range l {
			first, end := Binary(h, op, a, l[len(op)])
			Binary(h, "+", word("x"), a)
			Builtin(h, "text", []api.Value{a})
			second, endAgain := Binary(h, op, a, l[len(op)])
			if first != second || end != endAgain {
				t.Fatal(op, a, first, second)
			}
		}
	}
}

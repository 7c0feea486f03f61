package oper

import (
	"fmt"
	"math"
	"math/rand"
	"slices"
	"strings"
	"testing"
	"unicode/utf8"

	"gusset/api"
	"gusset/value"
)

// signs are what a text is made of as chapter 1 counts: runes, and bytes that belong to none.
func signs(s string) []string {
	var l []string
	for len(s) > 0 {
		_, size := utf8.DecodeRuneInString(s)
		l = append(l, s[:size])
		s = s[size:]
	}
	return l
}

// A thing is what an array or an object should have.
type thing struct {
	kind   int
	values []api.Value
	named  map[string]api.Value
}

// A world is a heap, and what should be in it by number.
type world struct {
	h      *value.Heap
	things []thing
}

func (w *world) thing(v api.Value) *thing {
	return &w.things[v.N]
}

func (w *world) array(l ...api.Value) api.Value {
	w.things = append(w.things, thing{kind: api.ValueArray, values: l})
	return w.h.Array(slices.Clone(l))
}

func (w *world) object(name string, x api.Value) api.Value {
	w.things = append(w.things, thing{kind: api.ValueObject, named: map[string]api.Value{name: x}})
	return w.h.Object([]string{name}, []api.Value{x})
}

// all are the values of the things.
func (w *world) all() []api.Value {
	var l []api.Value
	for n, t := range w.things {
		l = append(l, of(t.kind, n))
	}
	return l
}

// member is what the chapter says of Member.
func (w *world) member(v api.Value, name string) (api.Value, int) {
	switch v.Kind {
	case api.ValueArray:
		if name == "length" {
			return num(len(w.thing(v).values)), api.EndDone
		}
		return undef, api.EndDone
	case api.ValueText:
		if name == "length" {
			return num(len(signs(v.Text))), api.EndDone
		}
		return undef, api.EndDone
	case api.ValueObject:
		return w.thing(v).named[name], api.EndDone
	}
	return undef, api.EndType
}

// index is what the chapter says of Index.
func (w *world) index(v, k api.Value) (api.Value, int) {
	switch {
	case v.Kind == api.ValueArray && k.Kind == api.ValueNumber:
		for i, x := range w.thing(v).values {
			if i == k.N {
				return x, api.EndDone
			}
		}
		return undef, api.EndDone
	case v.Kind == api.ValueText && k.Kind == api.ValueNumber:
		for i, s := range signs(v.Text) {
			if i == k.N {
				return word(s), api.EndDone
			}
		}
		return undef, api.EndDone
	case v.Kind == api.ValueObject && k.Kind == api.ValueText:
		return w.member(v, k.Text)
	}
	return undef, api.EndType
}

func (w *world) setMember(v api.Value, name string, x api.Value) int {
	if v.Kind != api.ValueObject {
		return api.EndType
	}
	w.thing(v).named[name] = x
	return api.EndDone
}

func (w *world) setIndex(v, k, x api.Value) int {
	switch {
	case v.Kind == api.ValueArray && k.Kind == api.ValueNumber:
		l := &w.thing(v).values
		switch {
		case k.N >= 0 && k.N < len(*l):
			(*l)[k.N] = x
		case k.N == len(*l):
			*l = append(*l, x)
		default:
			return api.EndRange
		}
		return api.EndDone
	case v.Kind == api.ValueObject && k.Kind == api.ValueText:
		return w.setMember(v, k.Text, x)
	}
	return api.EndType
}

func (w *world) push(args []api.Value) (api.Value, int) {
	if len(args) != 2 || args[0].Kind != api.ValueArray {
		return undef, api.EndType
	}
	t := w.thing(args[0])
	t.values = append(t.values, args[1])
	return num(len(t.values)), api.EndDone
}

// names that are asked for; the length is no name of an array's or a text's to be set.
var names = []string{"length", "a", "b", "", "0", "1", "-1", "push", "Length", "length ", "ä", "\xff"}

func worldOfThings() (*world, []api.Value) {
	w := &world{h: value.New()}
	w.array()
	w.array(num(1), word("two"), undef, null)
	w.object("a", word("of a"))
	w.object("length", num(-3))
	w.array(of(api.ValueArray, 4), of(api.ValueObject, 2))
	w.object("", undef)
	l := []api.Value{undef, null, boolean(true), boolean(false), num(0), num(1), num(-1), num(4), num(api.MaxSafe)}
	for _, s := range append(slices.Clone(names), "a", "aä€\U0001F600", "\xff\xc3ä\xed\xa0\x80", "e\u0301", strings.Repeat("ä", 9)) {
		l = append(l, word(s))
	}
	l = append(l, w.all()...)
	for kind := api.ValueFunc; kind <= api.ValueSpace; kind++ {
		l = append(l, of(kind, 0), of(kind, 2))
	}
	return w, append(l, api.Value{Kind: api.ValueArray, N: 1, Text: "abc"}, api.Value{Kind: api.ValueText, N: 1, Text: "abc"})
}

// asks holds all members, and all elements at keys of all kinds, of all values.
func (w *world) asks(t *testing.T, l []api.Value) {
	t.Helper()
	keys := slices.Clone(l)
	for _, n := range []int{2, 3, 5, 9, -2, math.MinInt, math.MaxInt, 1 << 32} {
		keys = append(keys, num(n))
	}
	for _, v := range l {
		for _, name := range names {
			got, end := Member(w.h, v, name)
			want, wantEnd := w.member(v, name)
			holds(t, fmt.Sprintf("Member of %v, %q", v, name), got, end, want, wantEnd)
		}
		for _, k := range keys {
			got, end := Index(w.h, v, k)
			want, wantEnd := w.index(v, k)
			holds(t, fmt.Sprintf("Index of %v, %v", v, k), got, end, want, wantEnd)
		}
	}
}

// 24.3: Member and Index of all values, by all names and keys.
func TestMembers(t *testing.T) {
	w, l := worldOfThings()
	w.asks(t, l)
	for _, c := range []struct {
		v    api.Value
		name string
		want api.Value
		end  int
	}{
		{of(api.ValueArray, 1), "length", num(4), api.EndDone},
		{of(api.ValueArray, 1), "0", undef, api.EndDone},
		{of(api.ValueArray, 1), "push", undef, api.EndDone},
		{word(""), "length", num(0), api.EndDone},
		{word("\xff\xc3ä"), "length", num(3), api.EndDone},
		{word("abc"), "size", undef, api.EndDone},
		{of(api.ValueObject, 2), "a", word("of a"), api.EndDone},
		{of(api.ValueObject, 2), "length", undef, api.EndDone},
		{of(api.ValueObject, 3), "length", num(-3), api.EndDone},
		{undef, "length", undef, api.EndType},
		{num(1), "length", undef, api.EndType},
		{boolean(true), "a", undef, api.EndType},
		{of(api.ValueFunc, 2), "a", undef, api.EndType},
		{of(api.ValueClass, 2), "a", undef, api.EndType},
		{of(api.ValueSpace, 2), "a", undef, api.EndType},
	} {
		v, end := Member(w.h, c.v, c.name)
		holds(t, fmt.Sprintf("Member of %v, %q", c.v, c.name), v, end, c.want, c.end)
	}
}

// 24.3: Index by keys of each kind; places below 0 and behind the end have nothing.
func TestIndex(t *testing.T) {
	w, _ := worldOfThings()
	for _, c := range []struct {
		v, k, want api.Value
		end        int
	}{
		{of(api.ValueArray, 1), num(0), num(1), api.EndDone},
		{of(api.ValueArray, 1), num(3), null, api.EndDone},
		{of(api.ValueArray, 1), num(4), undef, api.EndDone},
		{of(api.ValueArray, 1), num(-1), undef, api.EndDone},
		{of(api.ValueArray, 1), word("0"), undef, api.EndType},
		{of(api.ValueArray, 1), word("length"), undef, api.EndType},
		{of(api.ValueArray, 1), boolean(true), undef, api.EndType},
		{of(api.ValueArray, 1), undef, undef, api.EndType},
		{word("\xffä"), num(0), word("\xff"), api.EndDone},
		{word("\xffä"), num(1), word("ä"), api.EndDone},
		{word("\xffä"), num(2), undef, api.EndDone},
		{word("ab"), num(-1), undef, api.EndDone},
		{word("ab"), word("length"), undef, api.EndType},
		{word("ab"), word("0"), undef, api.EndType},
		{word(""), num(0), undef, api.EndDone},
		{of(api.ValueObject, 2), word("a"), word("of a"), api.EndDone},
		{of(api.ValueObject, 2), word("b"), undef, api.EndDone},
		{of(api.ValueObject, 2), num(0), undef, api.EndType},
		{of(api.ValueObject, 2), null, undef, api.EndType},
		{of(api.ValueSpace, 2), word("a"), undef, api.EndType},
		{num(12), num(0), undef, api.EndType},
		{null, word("a"), undef, api.EndType},
	} {
		v, end := Index(w.h, c.v, c.k)
		holds(t, fmt.Sprintf("Index of %v, %v", c.v, c.k), v, end, c.want, c.end)
	}
}

// 24.4: SetMember and SetIndex at each thing and at what is none, on a heap of its own each time; what is refused changes nothing (R2).
func TestSetsOnce(t *testing.T) {
	_, l := worldOfThings()
	keys := append(slices.Clone(l), num(2), num(3), num(5), num(math.MinInt), num(math.MaxInt))
	for _, v := range l {
		for _, k := range keys {
			w, _ := worldOfThings()
			if end, want := SetIndex(w.h, v, k, word("set")), w.setIndex(v, k, word("set")); end != want {
				t.Fatalf("SetIndex of %v, %v: %d, want %d", v, k, end, want)
			}
			w.asks(t, w.all())
		}
		for _, name := range names {
			w, _ := worldOfThings()
			if end, want := SetMember(w.h, v, name, word("set")), w.setMember(v, name, word("set")); end != want {
				t.Fatalf("SetMember of %v, %q: %d, want %d", v, name, end, want)
			}
			w.asks(t, w.all())
		}
	}
}

// 24.4: the edges of an array's places.
func TestSetIndexPlaces(t *testing.T) {
	for length := range 4 {
		for n := -2; n < 7; n++ {
			h := value.New()
			a := h.Array(make([]api.Value, length))
			want, long := api.EndRange, length
			if n >= 0 && n <= length {
				want, long = api.EndDone, max(length, n+1)
			}
			if end := SetIndex(h, a, num(n), word("set")); end != want || h.Len(a) != long {
				t.Errorf("SetIndex at %d of %d: %d, Len %d", n, length, end, h.Len(a))
			}
			x, ok := h.At(a, n)
			if ok != (want == api.EndDone) || ok && x != word("set") {
				t.Errorf("behind SetIndex at %d of %d: %v, %t", n, length, x, ok)
			}
		}
	}
}

// 24.4: x may be of any kind, undefined and the thing itself, too.
func TestSetAll(t *testing.T) {
	w, l := worldOfThings()
	for _, x := range l {
		for _, o := range []api.Value{of(api.ValueObject, 2), of(api.ValueObject, 5)} {
			if SetMember(w.h, o, "n", x) != api.EndDone || SetIndex(w.h, o, word("k"), x) != api.EndDone {
				t.Error("set of", x)
			}
			v, end := Member(w.h, o, "n")
			holds(t, "Member", v, end, x, api.EndDone)
			v, end = Index(w.h, o, word("k"))
			holds(t, "Index", v, end, x, api.EndDone)
		}
		a := of(api.ValueArray, 1)
		if SetIndex(w.h, a, num(1), x) != api.EndDone || SetIndex(w.h, a, num(w.h.Len(a)), x) != api.EndDone {
			t.Error("set of", x)
		}
		v, end := Index(w.h, a, num(1))
		holds(t, "Index", v, end, x, api.EndDone)
		v, end = Index(w.h, a, num(w.h.Len(a)-1))
		holds(t, "Index of the last one", v, end, x, api.EndDone)
	}
}

// 24.3 to 24.6: made rows of calls; what SetIndex put Index tells, and nothing else has changed.
func TestMadeCalls(t *testing.T) {
	done := map[string]int{}
	for seed := range 300 {
		r := rand.New(rand.NewSource(int64(24000 + seed)))
		w, l := worldOfThings()
		things := w.all()
		for range 40 {
			v, k, x := l[r.Intn(len(l))], l[r.Intn(len(l))], l[r.Intn(len(l))]
			if r.Intn(4) > 0 {
				v = things[r.Intn(len(things))]
			}
			if r.Intn(2) > 0 {
				k = num(r.Intn(6) - 1)
			}
			call, got, want := "", 0, 0
			switch r.Intn(3) {
			case 0:
				call, got, want = "SetMember", SetMember(w.h, v, k.Text, x), w.setMember(v, k.Text, x)
			case 1:
				call, got, want = "SetIndex", SetIndex(w.h, v, k, x), w.setIndex(v, k, x)
			case 2:
				var told, wanted api.Value
				args := []api.Value{v, x, k}[:1+r.Intn(3)]
				told, got = Builtin(w.h, "push", args)
				wanted, want = w.push(args)
				call = "push"
				holds(t, call, told, got, wanted, want)
			}
			done[fmt.Sprint(call, want)]++
			if got != want {
				t.Fatalf("%s of %v, %v, %v: %d, want %d", call, v, k, x, got, want)
			}
		}
		w.asks(t, l)
	}
	for _, call := range []string{"SetMember0", "SetMember3", "SetIndex0", "SetIndex3", "SetIndex4", "push0", "push3"} {
		if done[call] < 100 {
			t.Errorf("%s was met %d times alone of %v", call, done[call], done)
		}
	}
}

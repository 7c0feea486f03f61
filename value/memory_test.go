package value

import (
	"fmt"
	"math/rand"
	"slices"
	"testing"
	"unsafe"

	"gusset/api"
)

// A caller has texts whose bytes it may change behind a call.
type caller struct{ all [][]byte }

func (c *caller) text(s string) string {
	b := []byte(s)
	c.all = append(c.all, b)
	return unsafe.String(unsafe.SliceData(b), len(b))
}

func (c *caller) word(s string) api.Value { return word(c.text(s)) }

func (c *caller) change() {
	for _, b := range c.all {
		for i := range b {
			b[i] = '?'
		}
	}
}

// R4: lists that were handed in, with their room, may be changed behind the call, and so may the bytes of names and texts; nothing of the heap changes.
func TestNothingKept(t *testing.T) {
	h, c := New(), &caller{}
	l := append(make([]api.Value, 0, 8), c.word("first"), c.word("second"))
	names := append(make([]string, 0, 8), c.text("one"), c.text("two"), c.text("three"))
	a := h.Array(l)
	o := h.Object(names, l)
	b := h.Array(l[:1])
	h.Push(b, c.word("pushed"))
	h.Put(b, 2, c.word("put behind"))
	h.Put(b, 0, c.word("put"))
	h.Set(o, c.text("four"), c.word("set"))
	h.Set(o, c.text("one"), c.word("set again"))
	c.change()
	l, names = l[:8], names[:8]
	for i := range l {
		l[i], names[i] = number(-7), "two"
	}
	for i, want := range []string{"first", "second"} {
		if x, ok := h.At(a, i); x != word(want) || !ok {
			t.Errorf("At %d: %v, %t, want %s", i, x, ok, want)
		}
	}
	for i, want := range []string{"put", "pushed", "put behind"} {
		if x, ok := h.At(b, i); x != word(want) || !ok {
			t.Errorf("At %d of what was put: %v, %t, want %s", i, x, ok, want)
		}
	}
	for name, want := range map[string]string{"one": "set again", "two": "second", "four": "set"} {
		if x, ok := h.Get(o, name); x != word(want) || !ok {
			t.Errorf("Get %s: %v, %t, want %s", name, x, ok, want)
		}
	}
	for _, name := range []string{"three", "???", "?????", "????", ""} {
		if x, ok := h.Get(o, name); ok {
			t.Errorf("Get %s: %v", name, x)
		}
	}
	if h.Len(a) != 2 || h.Len(b) != 3 {
		t.Error("Len:", h.Len(a), h.Len(b))
	}
}

// R4: a name that is set again is the heap's own still.
func TestNamesSetAgain(t *testing.T) {
	h, c := New(), &caller{}
	o := h.Object([]string{"name"}, []api.Value{number(1)})
	for i := range 3 {
		h.Set(o, c.text("name"), number(i))
		h.Set(h.Object([]string{c.text("name"), c.text("name")}, []api.Value{number(1), c.word("name")}), c.text("other"), c.word("other"))
		c.change()
		if x, ok := h.Get(o, "name"); x != number(i) || !ok {
			t.Error("Get:", x, ok)
		}
	}
}

// R4: lists that are handed in are not changed, nor what lies behind them.
func TestNothingChanged(t *testing.T) {
	h := New()
	l := []api.Value{word("a"), number(1), of(api.ValueArray, 0), word("behind")}
	names := []string{"b", "a", "b", "behind"}
	before, namesBefore := slices.Clone(l), slices.Clone(names)
	a := h.Array(l[:2])
	o := h.Object(names[:3], l[:3])
	h.Object(names[:1], l[:3])
	h.Push(a, number(5))
	h.Put(a, 0, number(6))
	h.Put(a, 3, number(6))
	h.Set(o, "b", number(7))
	h.Set(o, "c", number(8))
	if !slices.Equal(l, before) || !slices.Equal(names, namesBefore) {
		t.Error("changed:", l, names)
	}
}

// R4: each text that is handed out is new memory.
func TestNewMemory(t *testing.T) {
	h := New()
	in := word("the text")
	a := h.Array([]api.Value{in, in})
	o := h.Object([]string{"a", "b"}, []api.Value{in, in})
	at := []*byte{unsafe.StringData(in.Text)}
	for range 2 {
		for i := range 2 {
			x, _ := h.At(a, i)
			y, _ := h.Get(o, "ab"[i:i+1])
			at = append(at, unsafe.StringData(x.Text), unsafe.StringData(y.Text))
		}
		at = append(at, unsafe.StringData(h.Text(in)))
		for kind := range api.ValueSpace + 1 {
			if v := of(kind, 10); kind != api.ValueText {
				at = append(at, unsafe.StringData(h.Text(v)), unsafe.StringData(Typeof(v)))
			}
		}
	}
	for i, p := range at {
		if slices.Index(at, p) != i {
			t.Errorf("%d has the memory of %d", i, slices.Index(at, p))
		}
	}
}

// count tells at how many places of a model each text stands.
func (m model) count() map[string]int {
	times := map[string]int{}
	for _, t := range m {
		for _, name := range t.names {
			times[name]++
		}
		for _, x := range t.values {
			times[x.Text]++
		}
	}
	delete(times, "")
	return times
}

// No text is kept that does not stand anywhere, and each that stands somewhere is kept once.
func TestTextsKept(t *testing.T) {
	t.Parallel()
	for seed := range 500 {
		k := &maker{Rand: rand.New(rand.NewSource(int64(seed))), h: New(), done: map[string]int{}}
		for step := range 60 {
			calls := []func() string{k.array, k.object, k.set, k.put, k.push, k.set, k.put, k.set, k.put}
			if s := calls[k.Intn(len(calls))](); s != "" {
				t.Fatalf("made %d, call %d: %s", seed, step, s)
			}
			got := map[string]int{}
			for text, c := range k.h.texts {
				got[text] = c.places
				if c.text != text {
					t.Fatalf("made %d, call %d: %q stands at %q", seed, step, c.text, text)
				}
			}
			if want := k.m.count(); fmt.Sprint(got) != fmt.Sprint(want) {
				t.Fatalf("made %d, call %d: %v, want %v", seed, step, got, want)
			}
		}
	}
}

// R5: the same calls, on another heap, are answered the same.
func TestSameAgain(t *testing.T) {
	t.Parallel()
	for seed := range 100 {
		first := &maker{Rand: rand.New(rand.NewSource(int64(seed))), h: New(), done: map[string]int{}}
		again := &maker{Rand: rand.New(rand.NewSource(int64(seed))), h: New(), done: map[string]int{}}
		for range 40 {
			for _, k := range []*maker{first, again} {
				calls := []func() string{k.array, k.object, k.set, k.put, k.push}
				calls[k.Intn(len(calls))]()
			}
		}
		if s := asksAll(again.h, first.m); s != "" {
			t.Fatalf("made %d: %s", seed, s)
		}
	}
}

package value

import (
	"fmt"
	"strings"
	"testing"

	"gusset/api"
)

// 23.2: the number is how many arrays and objects were made ahead, of both together, in each heap on its own.
func TestNumbers(t *testing.T) {
	h, other := New(), New()
	if h == nil || h == other {
		t.Fatal("New gives no heap of its own")
	}
	for n := range 200 {
		if n%3 == 1 {
			if v := h.Object([]string{"a"}, []api.Value{number(n)}); v != of(api.ValueObject, n) {
				t.Fatalf("Object: %v, want the number %d", v, n)
			}
			continue
		}
		if v := h.Array([]api.Value{number(n)}); v != of(api.ValueArray, n) {
			t.Fatalf("Array: %v, want the number %d", v, n)
		}
	}
	// What is refused, set, put or pushed makes nothing.
	h.Push(of(api.ValueArray, 0), number(1))
	h.Push(of(api.ValueArray, 1), number(1))
	h.Set(of(api.ValueObject, 1), "b", number(1))
	h.Put(of(api.ValueArray, 0), 77, number(1))
	if v := h.Array(nil); v != of(api.ValueArray, 200) {
		t.Error("Array behind others:", v)
	}
	if v := other.Object(nil, nil); v != of(api.ValueObject, 0) {
		t.Error("the first Object of another heap:", v)
	}
}

// 23.2: names and values as many as both lists have, the last value of a name that stands twice.
func TestObjectLists(t *testing.T) {
	one, two, three := number(1), number(2), number(3)
	for _, c := range []struct {
		names []string
		l     []api.Value
		want  string
	}{
		{nil, nil, ""},
		{[]string{}, []api.Value{one}, ""},
		{[]string{"a"}, nil, ""},
		{[]string{"a"}, []api.Value{one}, "a1"},
		{[]string{"a", "b"}, []api.Value{one}, "a1"},
		{[]string{"a"}, []api.Value{one, two}, "a1"},
		{[]string{"b", "a"}, []api.Value{one, two}, "a2b1"},
		{[]string{"a", "a"}, []api.Value{one, two}, "a2"},
		{[]string{"a", "a"}, []api.Value{one}, "a1"},
		{[]string{"a", "b", "a", "a"}, []api.Value{one, two, three}, "a3b2"},
		{[]string{"c", "", "c"}, []api.Value{one, two, {}}, "2cundefined"},
	} {
		h := New()
		v := h.Object(c.names, c.l)
		got := ""
		for _, name := range []string{"", "a", "b", "c"} {
			if x, ok := h.Get(v, name); ok {
				got += name + h.Text(x)
			}
		}
		if got != c.want {
			t.Errorf("Object(%q, %v) has %s, want %s", c.names, c.l, got, c.want)
		}
	}
}

// 23.3: a name that is there with undefined is there.
func TestUndefinedIsThere(t *testing.T) {
	h := New()
	o := h.Object([]string{"a"}, []api.Value{{}})
	if x, ok := h.Get(o, "a"); x != (api.Value{}) || !ok {
		t.Error("Get of undefined:", x, ok)
	}
	a := h.Array([]api.Value{{}})
	if x, ok := h.At(a, 0); x != (api.Value{}) || !ok || h.Len(a) != 1 {
		t.Error("At of undefined:", x, ok)
	}
	if !h.Set(o, "a", number(1)) || !h.Set(o, "a", api.Value{}) {
		t.Error("Set")
	}
	if x, ok := h.Get(o, "a"); x != (api.Value{}) || !ok {
		t.Error("Get of what was set to undefined:", x, ok)
	}
}

// 23.3: places from 0 to the length.
func TestPutPlaces(t *testing.T) {
	for length := range 4 {
		for i := -3; i < 8; i++ {
			h := New()
			a := h.Array(make([]api.Value, length))
			want := i >= 0 && i <= length
			if got := h.Put(a, i, number(9)); got != want {
				t.Errorf("Put of %d at %d: %t", length, i, got)
			}
			more := 0
			if i == length {
				more = 1
			}
			if h.Len(a) != length+more {
				t.Errorf("behind Put of %d at %d: Len %d", length, i, h.Len(a))
			}
			for at := range length + more {
				x, ok := h.At(a, at)
				if !ok || (x == number(9)) != (at == i) {
					t.Errorf("behind Put of %d at %d: %v, %t at %d", length, i, x, ok, at)
				}
			}
		}
	}
}

// 23.5, R1: on a nil heap Array and Object answer the zero value, and all others that there is nothing.
func TestNil(t *testing.T) {
	var h *Heap
	l := []api.Value{number(1)}
	if v := h.Array(l); v != (api.Value{}) {
		t.Error("Array:", v)
	}
	if v := h.Object([]string{"a"}, l); v != (api.Value{}) {
		t.Error("Object:", v)
	}
	if s := asksAll(h, nil); s != "" {
		t.Error(s)
	}
	for kind := -1; kind <= 10; kind++ {
		v := of(kind, 0)
		if h.Set(v, "a", l[0]) || h.Put(v, 0, l[0]) || h.Push(v, l[0]) {
			t.Error("Set, Put or Push: true of", v)
		}
	}
}

// R1: a heap that New did not make is one of nothing.
func TestZeroHeap(t *testing.T) {
	var h Heap
	if s := asksAll(&h, nil); s != "" {
		t.Error(s)
	}
	if h.Set(of(api.ValueObject, 0), "a", number(1)) || h.Push(of(api.ValueArray, 0), number(1)) || h.Put(of(api.ValueArray, 0), 0, number(1)) {
		t.Error("what there is not is changed")
	}
	if v := h.Object([]string{"a"}, []api.Value{word("x")}); v != of(api.ValueObject, 0) {
		t.Error("Object:", v)
	}
	if x, ok := h.Get(of(api.ValueObject, 0), "a"); x != word("x") || !ok {
		t.Error("Get:", x, ok)
	}
}

// 23.3: of this heap is what it told of that kind: the thing of another heap with the same number is this one's own.
func TestOtherHeaps(t *testing.T) {
	h, other := New(), New()
	a := h.Array([]api.Value{number(1)})
	o := other.Object([]string{"a"}, []api.Value{number(2)})
	b := other.Array([]api.Value{number(3)})
	if h.Len(b) != 0 || h.Push(b, a) || h.Set(o, "a", a) || other.Push(a, b) || other.Len(a) != 0 {
		t.Error("a thing of another heap")
	}
	if x, ok := h.Get(o, "a"); ok || x != (api.Value{}) {
		t.Error("Get of another heap's:", x, ok)
	}
	if !h.Push(a, o) || h.Len(a) != 2 || other.Len(b) != 1 {
		t.Error("Push of a value that is none of this heap's things")
	}
	c := h.Array(nil)
	if c != b || !h.Push(b, number(4)) || h.Len(c) != 1 || other.Len(b) != 1 {
		t.Error("a value with a number that this heap told, too")
	}
}

// 23.6: of two that were made none is the Same, also with the same values; each is the Same as itself.
func TestTwoAreNotSame(t *testing.T) {
	h := New()
	var l []api.Value
	for range 20 {
		l = append(l, h.Array(nil), h.Object(nil, nil), h.Array([]api.Value{number(1)}), h.Object([]string{"a"}, []api.Value{number(1)}))
	}
	for i, a := range l {
		for j, b := range l {
			if Same(a, b) != (i == j) {
				t.Fatalf("Same(%v, %v): %t", a, b, i != j)
			}
		}
		if !Truth(a) || Typeof(a) != "object" || h.Text(a) != []string{"array", "object"}[i%2] {
			t.Errorf("%v: %t, %s, %s", a, Truth(a), Typeof(a), h.Text(a))
		}
	}
}

// 23.6: what was set is got, of that thing alone, also where things hold one another and themselves.
func TestOfThatAlone(t *testing.T) {
	h := New()
	var arrays, objects []api.Value
	for range 9 {
		arrays, objects = append(arrays, h.Array(nil)), append(objects, h.Object(nil, nil))
	}
	for i := range 9 {
		h.Push(arrays[i], arrays[i])
		h.Push(arrays[i], objects[(i+1)%9])
		h.Set(objects[i], "own", objects[i])
		h.Set(objects[i], "text", word(fmt.Sprint("the text of ", i)))
		h.Set(objects[i], fmt.Sprint("name ", i), number(i))
	}
	for i := range 9 {
		x, _ := h.At(arrays[i], 0)
		y, _ := h.At(arrays[i], 1)
		own, _ := h.Get(objects[i], "own")
		text, _ := h.Get(objects[i], "text")
		if x != arrays[i] || y != objects[(i+1)%9] || own != objects[i] || text != word(fmt.Sprint("the text of ", i)) || h.Len(arrays[i]) != 2 {
			t.Errorf("%d: %v %v %v %v", i, x, y, own, text)
		}
		for j := range 9 {
			if v, ok := h.Get(objects[i], fmt.Sprint("name ", j)); ok != (i == j) || i == j && v != number(i) {
				t.Errorf("Get of %d, name %d: %v, %t", i, j, v, ok)
			}
		}
	}
}

// The bound: arrays and objects with very many places, very many things.
func TestLarge(t *testing.T) {
	t.Parallel()
	const many = 1 << 19
	h := New()
	a, o := h.Array(nil), h.Object(nil, nil)
	for i := range many {
		if !h.Push(a, number(i)) || !h.Set(o, fmt.Sprint(i), number(-i)) {
			t.Fatal("Push, Set")
		}
		if i%8 == 0 {
			h.Object([]string{"i"}, []api.Value{number(i)})
		}
	}
	for i := range many {
		x, _ := h.At(a, i)
		y, ok := h.Get(o, fmt.Sprint(i))
		if x != number(i) || y != number(-i) || !ok {
			t.Fatalf("%d: %v, %v", i, x, y)
		}
		if i%8 == 0 {
			if z, ok := h.Get(of(api.ValueObject, 2+i/8), "i"); z != number(i) || !ok {
				t.Fatalf("%d: %v", i, z)
			}
		}
	}
	if h.Len(a) != many {
		t.Error("Len:", h.Len(a))
	}
}

// The bound: a long text that stands at very many places, under a long name, takes no more room than it needs; it is got everywhere, until it is written over.
func TestLongTexts(t *testing.T) {
	t.Parallel()
	const many = 1 << 19
	h := New()
	text, name := strings.Repeat("t", api.MaxText), strings.Repeat("n", api.MaxText)
	a := h.Array([]api.Value{word(text), word(text)})
	for i := range many {
		h.Push(a, word(text))
		if i%16 == 0 {
			h.Set(h.Object([]string{name}, []api.Value{word(text)}), name, number(i))
		}
	}
	for i := 0; i < many; i += 4099 {
		if x, ok := h.At(a, i); x.Text != text || !ok {
			t.Fatal("At:", i, len(x.Text), ok)
		}
	}
	for i := range h.Len(a) - 1 {
		h.Put(a, i, number(i))
	}
	if x, _ := h.At(a, h.Len(a)-1); x.Text != text {
		t.Error("the last one:", len(x.Text))
	}
	if x, ok := h.Get(of(api.ValueObject, 1), name); x != number(0) || !ok {
		t.Error("Get:", x, ok)
	}
}

// The bound: texts that were written over are let go.
func TestTextsThatGo(t *testing.T) {
	t.Parallel()
	h := New()
	a, o := h.Array([]api.Value{{}}), h.Object(nil, nil)
	text := strings.Repeat("t", api.MaxText)
	for i := range 1 << 14 {
		h.Put(a, 0, word(fmt.Sprint(i, text)))
		h.Set(o, "a", word(fmt.Sprint(text, i)))
		if i%1024 == 0 {
			x, _ := h.At(a, 0)
			y, _ := h.Get(o, "a")
			if x.Text != fmt.Sprint(i, text) || y.Text != fmt.Sprint(text, i) {
				t.Fatal(i, len(x.Text), len(y.Text))
			}
		}
	}
	if len(h.texts) > 3 {
		t.Error(len(h.texts), "texts are kept")
	}
}

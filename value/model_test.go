package value

import (
	"fmt"
	"math"
	"math/rand"
	"testing"

	"gusset/api"
)

// A thing is what an array or object should have: of an object the names as well, in the order in which they came.
type thing struct {
	kind   int
	names  []string
	values []api.Value
}

// A model is a heap as the chapter has it: its things by their numbers.
type model []*thing

func (m *model) make(kind int) (*thing, api.Value) {
	t := &thing{kind: kind}
	*m = append(*m, t)
	return t, of(kind, len(*m)-1)
}

// thing is that of a value, nil if there is none.
func (m model) thing(v api.Value, kind int) *thing {
	for n, t := range m {
		if v.Kind == kind && t.kind == kind && v.N == n {
			return t
		}
	}
	return nil
}

func (t *thing) get(name string) (api.Value, bool) {
	for i, n := range t.names {
		if n == name {
			return t.values[i], true
		}
	}
	return api.Value{}, false
}

func (t *thing) set(name string, x api.Value) {
	for i, n := range t.names {
		if n == name {
			t.values[i] = x
			return
		}
	}
	t.names, t.values = append(t.names, name), append(t.values, x)
}

// put tells whether there is such a place of an array.
func (t *thing) put(i int, x api.Value) bool {
	for at := range t.values {
		if at == i {
			t.values[i] = x
			return true
		}
	}
	if i == len(t.values) {
		t.values = append(t.values, x)
		return true
	}
	return false
}

// names that are asked for: alike in all but a byte, empty, no runes, as long as a text may be.
var names = []string{"a", "b", "A", "", "aa", "ä", "a\x00", "\xff", "length", "0", long}

const long = "a text that is longer than what stands in a word or two of memory"

// asks holds all that a heap tells of a value, of each name, and of each place and some beside.
func asks(h *Heap, m model, v api.Value) string {
	list, record := m.thing(v, api.ValueArray), m.thing(v, api.ValueObject)
	length := 0
	if list != nil {
		length = len(list.values)
	}
	if got := h.Len(v); got != length {
		return fmt.Sprintf("Len(%v): %d, want %d", v, got, length)
	}
	for _, i := range []int{math.MinInt, -2, math.MaxInt, math.MaxInt32} {
		if x, ok := h.At(v, i); x != (api.Value{}) || ok {
			return fmt.Sprintf("At(%v, %d): %v, %t", v, i, x, ok)
		}
	}
	for i := -1; i <= length+1; i++ {
		var want api.Value
		there := i >= 0 && i < length
		if there {
			want = list.values[i]
		}
		if x, ok := h.At(v, i); x != want || ok != there {
			return fmt.Sprintf("At(%v, %d): %v, %t, want %v, %t", v, i, x, ok, want, there)
		}
	}
	for _, name := range names {
		var want api.Value
		there := false
		if record != nil {
			want, there = record.get(name)
		}
		if x, ok := h.Get(v, name); x != want || ok != there {
			return fmt.Sprintf("Get(%v, %q): %v, %t, want %v, %t", v, name, x, ok, want, there)
		}
	}
	return ""
}

// asksAll asks of each thing as an array and as an object, of what there is not, and of other kinds with the same numbers.
func asksAll(h *Heap, m model) string {
	for n := -1; n <= len(m); n++ {
		for kind := -1; kind <= 10; kind++ {
			if s := asks(h, m, of(kind, n)); s != "" {
				return s
			}
		}
	}
	for _, n := range []int{math.MinInt, math.MaxInt, 1 << 32} {
		for _, kind := range []int{api.ValueArray, api.ValueObject} {
			if s := asks(h, m, of(kind, n)); s != "" {
				return s
			}
		}
	}
	return ""
}

// A maker makes values, and does the same to a heap and to its model.
type maker struct {
	*rand.Rand
	h    *Heap
	m    model
	done map[string]int
}

// value is of any kind: things that there are, things that there are not, and with fields that its kind does not have.
func (k *maker) value() api.Value {
	switch k.Intn(6) {
	case 0:
		return word(k.name())
	case 1:
		return number(k.Intn(5) - 2)
	case 2:
		return api.Value{Kind: k.Intn(12) - 1, N: k.Intn(5) - 2, Text: k.name()}
	}
	return k.thing()
}

// thing is mostly one that there is.
func (k *maker) thing() api.Value {
	n := k.Intn(len(k.m)+3) - 1
	if n >= 0 && n < len(k.m) && k.Intn(8) > 0 {
		return of(k.m[n].kind, n)
	}
	return api.Value{Kind: k.Intn(8), N: n, Text: names[k.Intn(2)]}
}

func (k *maker) name() string { return names[k.Intn(len(names))] }

func (k *maker) values() []api.Value {
	var l []api.Value
	for range k.Intn(4) {
		l = append(l, k.value())
	}
	return l
}

// tell counts how often a call did what it was to do, and how often not.
func (k *maker) tell(call string, got, want bool) string {
	k.done[fmt.Sprint(call, want)]++
	if got != want {
		return fmt.Sprintf("%s: %t, want %t", call, got, want)
	}
	return ""
}

func (k *maker) array() string {
	l := k.values()
	got := k.h.Array(l)
	t, want := k.m.make(api.ValueArray)
	t.values = append(t.values, l...)
	return k.tell("Array ", got == want, true)
}

func (k *maker) object() string {
	l := k.values()
	var names []string
	for range k.Intn(5) {
		names = append(names, k.name())
	}
	got := k.h.Object(names, l)
	t, want := k.m.make(api.ValueObject)
	for i, name := range names {
		if i < len(l) {
			t.set(name, l[i])
		}
	}
	return k.tell("Object ", got == want, true)
}

func (k *maker) set() string {
	v, name, x := k.thing(), k.name(), k.value()
	got := k.h.Set(v, name, x)
	t := k.m.thing(v, api.ValueObject)
	if t != nil {
		t.set(name, x)
	}
	return k.tell("Set ", got, t != nil)
}

func (k *maker) put() string {
	v, x := k.thing(), k.value()
	i := k.Intn(k.h.Len(v)+4) - 2
	got := k.h.Put(v, i, x)
	t := k.m.thing(v, api.ValueArray)
	return k.tell("Put ", got, t != nil && t.put(i, x))
}

func (k *maker) push() string {
	v, x := k.thing(), k.value()
	got := k.h.Push(v, x)
	t := k.m.thing(v, api.ValueArray)
	if t != nil {
		t.values = append(t.values, x)
	}
	return k.tell("Push ", got, t != nil)
}

// 23.2, 23.3, 23.6: many runs of calls, each asked about all things behind each call.
func TestMade(t *testing.T) {
	t.Parallel()
	done := map[string]int{}
	for seed := range 2000 {
		k := &maker{Rand: rand.New(rand.NewSource(int64(seed))), h: New(), done: done}
		for step := range 30 {
			calls := []func() string{k.array, k.object, k.set, k.put, k.push, k.set, k.put, k.push}
			s := calls[k.Intn(len(calls))]()
			if s == "" {
				s = asksAll(k.h, k.m)
			}
			if s != "" {
				t.Fatalf("made %d, call %d: %s", seed, step, s)
			}
		}
	}
	for _, call := range []string{"Array true", "Object true", "Set true", "Set false", "Put true", "Put false", "Push true", "Push false"} {
		if done[call] < 1000 {
			t.Errorf("%s: %d times", call, done[call])
		}
	}
}

// 23.2, 23.3: all rows of five calls of few.
func TestAllRows(t *testing.T) {
	t.Parallel()
	a, o := of(api.ValueArray, 0), of(api.ValueObject, 1)
	calls := []func(h *Heap, m *model) bool{
		func(h *Heap, m *model) bool { _, v := m.make(api.ValueArray); return h.Array(nil) == v },
		func(h *Heap, m *model) bool { _, v := m.make(api.ValueObject); return h.Object(nil, nil) == v },
		func(h *Heap, m *model) bool {
			l := m.thing(a, api.ValueArray)
			return h.Put(a, 0, o) == (l != nil && l.put(0, o))
		},
		func(h *Heap, m *model) bool {
			l := m.thing(a, api.ValueArray)
			return h.Put(a, 1, a) == (l != nil && l.put(1, a))
		},
		func(h *Heap, m *model) bool {
			l := m.thing(a, api.ValueArray)
			return h.Push(a, word("a")) == (l != nil && l.put(len(l.values), word("a")))
		},
		func(h *Heap, m *model) bool {
			r := m.thing(o, api.ValueObject)
			if r != nil {
				r.set("a", word(long))
			}
			return h.Set(o, "a", word(long)) == (r != nil)
		},
		func(h *Heap, m *model) bool {
			r := m.thing(o, api.ValueObject)
			if r != nil {
				r.set("b", o)
			}
			return h.Set(o, "b", o) == (r != nil)
		},
	}
	rows := 1
	for range 5 {
		rows *= len(calls)
	}
	for row := range rows {
		h, m := New(), model(nil)
		for at, rest := 0, row; at < 5; at, rest = at+1, rest/len(calls) {
			if !calls[rest%len(calls)](h, &m) {
				t.Fatalf("row %d: call %d, at %d", row, rest%len(calls), at)
			}
		}
		for n := -1; n <= len(m); n++ {
			for _, kind := range []int{api.ValueText, api.ValueArray, api.ValueObject, api.ValueFunc} {
				if s := asks(h, m, of(kind, n)); s != "" {
					t.Fatalf("row %d: %s", row, s)
				}
			}
		}
	}
}

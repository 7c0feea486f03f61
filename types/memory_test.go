package types

import (
	"slices"
	"strings"
	"testing"
	"unsafe"

	"gusset/api"
)

// A span is where a piece of memory begins and ends.
type span struct{ from, to uintptr }

// listSpan takes the spare room in.
func listSpan[T any](l []T) span {
	from := uintptr(unsafe.Pointer(unsafe.SliceData(l)))
	var one T
	return span{from, from + uintptr(cap(l))*unsafe.Sizeof(one)}
}

func textSpan(s string) span {
	from := uintptr(unsafe.Pointer(unsafe.StringData(s)))
	return span{from, from + uintptr(len(s))}
}

// typeSpans are those of all lists and names of some types.
func typeSpans(l ...api.Type) []span {
	var spans []span
	for _, t := range l {
		spans = append(spans, listSpan(t.Names), listSpan(t.List))
		for _, s := range t.Names {
			spans = append(spans, textSpan(s))
		}
		spans = append(spans, typeSpans(t.List...)...)
	}
	return spans
}

// shared tells whether any two of some pieces have memory in common.
func shared(l []span) bool {
	l = slices.DeleteFunc(l, func(s span) bool { return s.from >= s.to })
	slices.SortFunc(l, func(a, b span) int {
		if a.from < b.from {
			return -1
		}
		return 1
	})
	for i := 1; i < len(l); i++ {
		if l[i].from < l[i-1].to {
			return true
		}
	}
	return false
}

// roomy is a type with room behind each of its lists, and something in it; its memory is its own.
func roomy(t api.Type) api.Type {
	names, l := make([]string, 0, len(t.Names)+2), make([]api.Type, 0, len(t.List)+2)
	for _, s := range t.Names {
		names = append(names, strings.Clone(s))
	}
	for _, part := range t.List {
		l = append(l, roomy(part))
	}
	names, l = append(names, strings.Clone("behind"), ""), append(l, numbered(77, 7), number)
	t.Names, t.List = names[:len(t.Names)], l[:len(t.List)]
	return t
}

func roomies(l []api.Type) []api.Type {
	all := make([]api.Type, 0, len(l)+2)
	for _, t := range l {
		all = append(all, roomy(t))
	}
	return append(all, one(77), number)[:len(l)]
}

// whole tells types with what lies behind their lists.
func whole(l []api.Type) string {
	s := ""
	for _, t := range l[:cap(l)] {
		s += told(t) + strings.Join(t.Names[:cap(t.Names)], ",") + "(" + whole(t.List) + ")"
	}
	return s
}

func overwrite(l []api.Type) {
	for i, t := range l[:cap(l)] {
		overwrite(t.List)
		for j := range t.Names[:cap(t.Names)] {
			t.Names[:cap(t.Names)][j] = "over"
		}
		l[:cap(l)][i] = one(99)
	}
}

// holdMemory holds a call of types, which answers one: they stay as they were, the answer is the same each time, and is new memory.
func holdMemory(t *testing.T, l []api.Type, call func([]api.Type) (api.Type, api.Errno)) {
	t.Helper()
	in := roomies(l)
	before := whole(in)
	first, err := call(in)
	second, err2 := call(in)
	want := told(first)
	if whole(in) != before {
		t.Fatalf("%s, then %s", before, whole(in))
	}
	if told(second) != want || err != err2 {
		t.Fatalf("%s, then %s", want, told(second))
	}
	if shared(slices.Concat([]span{listSpan(in)}, typeSpans(in...), typeSpans(first, second))) {
		t.Fatalf("%s: memory is shared", want)
	}
	overwrite([]api.Type{first})
	if told(second) != want || whole(in) != before {
		t.Fatalf("%s: what is done to an answer shows", want)
	}
	overwrite(in)
	if told(second) != want {
		t.Fatalf("%s: what is done to what was handed in shows", want)
	}
}

// asRecord calls Record with slots whose room behind has something in it.
func asRecord(t *testing.T, names []string) func([]api.Type) (api.Type, api.Errno) {
	return func(l []api.Type) (api.Type, api.Errno) {
		var slots []api.Slot
		for i, x := range l {
			slots = append(slots, slot(strings.Clone(names[i]), x))
		}
		slots = append(slots, slot("behind", number), slot("", one(77)))
		before := slices.Clone(slots)
		x, err := Record(slots[:len(l)])
		for i := range slots {
			if slots[i].Name != before[i].Name || told(slots[i].Type) != told(before[i].Type) {
				t.Fatal("slots are not as they were")
			}
		}
		spans := append(typeSpans(x), listSpan(slots))
		for _, s := range slots {
			spans = append(spans, textSpan(s.Name))
		}
		if shared(spans) {
			t.Fatal("memory is shared with the slots")
		}
		return x, err
	}
}

// R4, R5: what Union and Record are handed stays as it was, what they answer is their own.
func TestMemory(t *testing.T) {
	union := func(l []api.Type) (api.Type, api.Errno) { return Union(l...) }
	for seed := range int64(3000) {
		c := by(seed)
		l := c.mays(1+c.Intn(4), 4)
		if seed%10 == 0 {
			c.spoil(&l[0])
		}
		holdMemory(t, l, union)
		holdMemory(t, l[:1], union)
		names := slices.Clone(someNames)
		c.Shuffle(len(names), func(i, j int) { names[i], names[j] = names[j], names[i] })
		holdMemory(t, l, asRecord(t, names))
	}
}

// R4: a list that stands at several places of what is handed in stands once at each of what is answered.
func TestMemoryOnceEach(t *testing.T) {
	x := record("a b", list(number), list(number))
	x.List[1].List = x.List[0].List
	in := []api.Type{fn(x, x), list(x), x}
	u, err := Union(in...)
	if err != api.OK || shared(typeSpans(u)) {
		t.Error("memory is shared", err)
	}
	r, err := Record([]api.Slot{slot("x", x), slot("y", x), slot("z", fn(x, x))})
	if err != api.OK || shared(typeSpans(r)) {
		t.Error("memory is shared", err)
	}
}

// R4: calls that answer no types leave them as they were, too.
func TestUnchanged(t *testing.T) {
	for seed := range int64(1000) {
		c := by(seed)
		in := roomies([]api.Type{c.any(4), c.any(4)})
		before := whole(in)
		text := Show(in[0])
		told := [4]int{int(Check(in[0])), Size(in[0]), Compare(in[0], in[1]), Compare(in[1], in[0])}
		if whole(in) != before {
			t.Fatalf("%s, then %s", before, whole(in))
		}
		if again := [4]int{int(Check(in[0])), Size(in[0]), Compare(in[0], in[1]), Compare(in[1], in[0])}; again != told || Show(in[0]) != text {
			t.Fatalf("%s: %v, then %v", before, told, again)
		}
	}
}

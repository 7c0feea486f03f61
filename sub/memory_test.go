package sub

import (
	"slices"
	"strings"
	"testing"
	"unsafe"

	"gusset/api"
)

// A span is where a piece of memory begins and ends.
type span struct{ from, to uintptr }

// listSpan takes the spare room in.
func listSpan[T any](l []T) span {
	from := uintptr(unsafe.Pointer(unsafe.SliceData(l)))
	var one T
	return span{from, from + uintptr(cap(l))*unsafe.Sizeof(one)}
}

func textSpan(s string) span {
	from := uintptr(unsafe.Pointer(unsafe.StringData(s)))
	return span{from, from + uintptr(len(s))}
}

// typeSpans are those of all lists and names of some types.
func typeSpans(l ...api.Type) []span {
	var spans []span
	for _, t := range l {
		spans = append(spans, listSpan(t.Names), listSpan(t.List))
		for _, s := range t.Names {
			spans = append(spans, textSpan(s))
		}
		spans = append(spans, typeSpans(t.List...)...)
	}
	return spans
}

// shared tells whether any two of some pieces have memory in common.
func shared(l []span) bool {
	l = slices.DeleteFunc(l, func(s span) bool { return s.from >= s.to })
	slices.SortFunc(l, func(a, b span) int {
		if a.from < b.from {
			return -1
		}
		return 1
	})
	for i := 1; i < len(l); i++ {
		if l[i].from < l[i-1].to {
			return true
		}
	}
	return false
}

// roomy is a type with room behind each of its lists, and something in it; its memory is its own.
func roomy(t api.Type) api.Type {
	names, l := make([]string, 0, len(t.Names)+2), make([]api.Type, 0, len(t.List)+2)
	for _, s := range t.Names {
		names = append(names, strings.Clone(s))
	}
	for _, part := range t.List {
		l = append(l, roomy(part))
	}
	names, l = append(names, strings.Clone("behind"), ""), append(l, numbered(77, 7), typ("number"))
	t.Names, t.List = names[:len(t.Names)], l[:len(t.List)]
	return t
}

func roomyClasses(classes []api.ClassInfo) []api.ClassInfo {
	all := make([]api.ClassInfo, 0, len(classes)+1)
	for _, info := range classes {
		l := make([]api.Slot, 0, len(info.Members)+1)
		for _, m := range info.Members {
			l = append(l, slot(strings.Clone(m.Name), roomy(m.Type)))
		}
		info.Members = append(l, slot("behind", typ("number")))[:len(l)]
		all = append(all, info)
	}
	return append(all, api.ClassInfo{Name: "behind"})[:len(classes)]
}

// whole tells types with what lies behind their lists.
func whole(l ...api.Type) string {
	s := ""
	for _, t := range l[:cap(l)] {
		s += told(t) + strings.Join(t.Names[:cap(t.Names)], ",") + "(" + whole(t.List...) + ")"
	}
	return s
}

func wholeClasses(classes []api.ClassInfo) string {
	s := ""
	for _, info := range classes[:cap(classes)] {
		s += info.Name + "{"
		for _, m := range info.Members[:cap(info.Members)] {
			s += m.Name + whole(m.Type)
		}
		s += "}"
	}
	return s
}

func classSpans(classes []api.ClassInfo) []span {
	spans := []span{listSpan(classes)}
	for _, info := range classes {
		spans = append(spans, listSpan(info.Members))
		for _, m := range info.Members {
			spans = append(append(spans, textSpan(m.Name)), typeSpans(m.Type)...)
		}
	}
	return spans
}

func overwrite(l []api.Type) {
	for i, t := range l[:cap(l)] {
		overwrite(t.List)
		for j := range t.Names[:cap(t.Names)] {
			t.Names[:cap(t.Names)][j] = "over"
		}
		l[:cap(l)][i] = one(99)
	}
}

// R4, R5: what is handed in stays as it was, what is answered is new memory, and the same each time.
func TestMemory(t *testing.T) {
	for seed := range int64(4000) {
		c := by(seed)
		a, b, classes := roomy(c.may(4)), roomy(c.may(4)), roomyClasses(c.classes(3))
		before := whole(a, b) + wholeClasses(classes)
		sub := Sub(a, b, classes)
		for _, name := range append(c.names, "d") {
			first, ok := Member(a, name, classes)
			second, ok2 := Member(a, name, classes)
			if ok != ok2 || told(first) != told(second) {
				t.Fatal(brief(first), brief(second))
			}
			isOwn(t, first, second, a, b, classes)
		}
		first, err := Join(a, b)
		second, err2 := Join(a, b)
		if err != err2 || told(first) != told(second) || Sub(a, b, classes) != sub {
			t.Fatal(brief(first), brief(second))
		}
		isOwn(t, first, second, a, b, classes)
		if whole(a, b)+wholeClasses(classes) != before {
			t.Fatalf("%s, then %s", before, whole(a, b)+wholeClasses(classes))
		}
	}
}

// isOwn holds that two answers share no memory with one another and with what was handed in.
func isOwn(t *testing.T, first, second, a, b api.Type, classes []api.ClassInfo) {
	t.Helper()
	if shared(slices.Concat(typeSpans(first, second, a, b), classSpans(classes))) {
		t.Fatalf("%s: memory is shared", brief(first))
	}
	want := told(second)
	overwrite([]api.Type{first})
	if told(second) != want {
		t.Fatalf("%s: what is done to an answer shows", want)
	}
}

// R4: a list that stands at several places of what is handed in stands once at each of what is answered.
func TestMemoryOnceEach(t *testing.T) {
	inner := typ("{ a: number; b: number[]; }")
	outer := api.Type{Kind: api.TypeRecord, Names: []string{"x"}, List: []api.Type{fn(inner, inner, list(inner))}}
	got, ok := Member(outer, "x", nil)
	if !ok || shared(typeSpans(got)) {
		t.Error("memory is shared", ok)
	}
	got, ok = Member(typ("inst0"), "x", members(slot("x", outer.List[0])))
	if !ok || shared(typeSpans(got)) {
		t.Error("memory is shared", ok)
	}
}

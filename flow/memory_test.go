package flow

import (
	"fmt"
	"runtime"
	"slices"
	"strings"
	"testing"
	"unsafe"

	"gusset/api"
)

// A span is where a piece of memory begins and ends.
type span struct{ from, to uintptr }

func textSpan(s string) []span {
	from := uintptr(unsafe.Pointer(unsafe.StringData(s)))
	return []span{{from, from + uintptr(len(s))}}
}

// spansOf are those of a list, its spare room too, and of what each element has.
func spansOf[T any](l []T, each func(T) []span) []span {
	from := uintptr(unsafe.Pointer(unsafe.SliceData(l)))
	var one T
	spans := []span{{from, from + uintptr(cap(l))*unsafe.Sizeof(one)}}
	for _, e := range l {
		spans = append(spans, each(e)...)
	}
	return spans
}

func typeSpans(t api.Type) []span {
	return append(spansOf(t.Names, textSpan), spansOf(t.List, typeSpans)...)
}

func treeSpans(n api.Node) []span {
	return append(spansOf(n.Kids, treeSpans), textSpan(n.Text)...)
}

func factSpans(f api.Fact) []span {
	return append(textSpan(f.Name), textSpan(f.Text)...)
}

// shared tells whether any two of some pieces have memory in common.
func shared(l ...[]span) bool {
	all := slices.DeleteFunc(slices.Concat(l...), func(s span) bool { return s.from >= s.to })
	slices.SortFunc(all, func(a, b span) int {
		if a.from < b.from {
			return -1
		}
		return 1
	})
	for i := 1; i < len(all); i++ {
		if all[i].from < all[i-1].to {
			return true
		}
	}
	return false
}

// roomy is a list with room behind it, and something in that.
func roomy[T any](l []T, one func(T) T, behind T) []T {
	c := make([]T, 0, len(l)+2)
	for _, e := range l {
		c = append(c, one(e))
	}
	return append(c, behind, behind)[:len(l)]
}

func roomyTree(n api.Node) api.Node {
	return api.Node{Kind: n.Kind, Text: strings.Clone(n.Text), N: n.N, Kids: roomy(n.Kids, roomyTree, api.Node{Kind: api.Name, Text: "behind"})}
}

func roomyType(t api.Type) api.Type {
	return api.Type{Kind: t.Kind, N: t.N, Names: roomy(t.Names, strings.Clone, "behind"), List: roomy(t.List, roomyType, api.Type{Kind: api.TypeNull})}
}

// wholeTree tells a tree with what lies behind its lists.
func wholeTree(n api.Node) string {
	s := fmt.Sprint(n.Kind, n.Text, n.N, len(n.Kids))
	for _, k := range n.Kids[:cap(n.Kids)] {
		s += "(" + wholeTree(k) + ")"
	}
	return s
}

func wholeType(t api.Type) string {
	s := fmt.Sprint(t.Kind, t.N, len(t.List), t.Names[:cap(t.Names)])
	for _, part := range t.List[:cap(t.List)] {
		s += "(" + wholeType(part) + ")"
	}
	return s
}

func overwrite(l []api.Type) {
	for i, t := range l[:cap(l)] {
		overwrite(t.List)
		for j := range t.Names[:cap(t.Names)] {
			t.Names[:cap(t.Names)][j] = "over"
		}
		l[:cap(l)][i] = one(99)
	}
}

// R4, R5: the tree stays as it was; what is answered is the same each time, and new memory.
func TestFactsMemory(t *testing.T) {
	for seed := range int64(2000) {
		c := by(seed)
		n := roomyTree(c.condition(6).tree)
		before := wholeTree(n)
		for _, is := range []bool{true, false} {
			first, second := Facts(n, is), Facts(n, is)
			want := brief(second)
			if brief(first) != want || wholeTree(n) != before {
				t.Fatalf("%s: %s, then %s", before, brief(first), want)
			}
			if shared(treeSpans(n), spansOf(first, factSpans), spansOf(second, factSpans)) {
				t.Fatalf("%s: memory is shared", before)
			}
			clear(first[:cap(first)])
			if brief(second) != want || wholeTree(n) != before {
				t.Fatalf("%s: what is done to an answer shows", before)
			}
			runtime.KeepAlive(first)
		}
	}
}

// R4, R5: the type stays as it was; what is answered is the same each time, and new memory; also if it is the type itself.
func TestNarrowMemory(t *testing.T) {
	for seed := range int64(6000) {
		c := by(seed)
		x, f := roomyType(c.may(4)), c.fact()
		if seed%10 == 0 {
			c.spoil(&x)
		}
		before := wholeType(x)
		first, second := Narrow(x, f), Narrow(x, f)
		want := told(second)
		if told(first) != want || wholeType(x) != before {
			t.Fatalf("%s: %s, then %s", before, told(first), want)
		}
		if shared(typeSpans(x), typeSpans(first), typeSpans(second)) {
			t.Fatalf("%s: memory is shared", before)
		}
		overwrite([]api.Type{first})
		if told(second) != want || wholeType(x) != before {
			t.Fatalf("%s: what is done to an answer shows", before)
		}
		overwrite([]api.Type{x})
		if told(second) != want {
			t.Fatalf("%s: what is done to what was handed in shows", before)
		}
	}
}

// R4: a list that stands at several places of what is handed in stands once at each of what is answered.
func TestNarrowMemoryOnceEach(t *testing.T) {
	inner := typ("{ a: number; b: number[]; }")
	whole := eitherOf(typ("null"), list(inner), inner, fn(inner, inner))
	for _, text := range []string{"true", "is null", "not is undefined", "is x", "typeof object", "typeof function"} {
		if got := Narrow(whole, fact(text)); isZero(got) || shared(typeSpans(got)) {
			t.Errorf("%s: %s: memory is shared", text, shown(got))
		}
	}
}

// R3: lists that are empty may be nil or not.
func TestEmptyLists(t *testing.T) {
	empty := func(kind int) api.Type {
		return api.Type{Kind: kind, Names: []string{}, List: []api.Type{}}
	}
	leaves(t, empty(api.TypeAny), fact("typeof number"), typ("number"))
	leaves(t, empty(api.TypeAny), fact("true"), typ("any"))
	leaves(t, empty(api.TypeRecord), fact("true"), typ("{}"))
	leaves(t, eitherOf(empty(api.TypeNumber), empty(api.TypeNull)), fact("not is null"), typ("number"))
	x := api.Node{Kind: api.Name, Text: "x", Kids: []api.Node{}}
	says(t, x, "x: true", "x: not true")
	says(t, node(api.Binary, "===", x, api.Node{Kind: api.Null, Kids: []api.Node{}}), "x: is null", "x: not is null")
}

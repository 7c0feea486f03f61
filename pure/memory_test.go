package pure

import (
	"fmt"
	"math/rand"
	"runtime"
	"slices"
	"strings"
	"testing"
	"unsafe"

	"gusset/api"
)

// A span is where a piece of memory begins and ends.
type span struct{ from, to uintptr }

func textSpan(s string) span {
	from := uintptr(unsafe.Pointer(unsafe.StringData(s)))
	return span{from, from + uintptr(len(s))}
}

// spansOf are those of a list, its spare room too, and of what each element has.
func spansOf[T any](l []T, each func(T) []span) []span {
	from := uintptr(unsafe.Pointer(unsafe.SliceData(l)))
	var one T
	spans := []span{{from, from + uintptr(cap(l))*unsafe.Sizeof(one)}}
	for _, e := range l {
		spans = append(spans, each(e)...)
	}
	return spans
}

func treeSpans(n api.Node) []span {
	return append(spansOf(n.Kids, treeSpans), textSpan(n.Text))
}

func foundSpans(l []api.Found) []span {
	return spansOf(l, func(f api.Found) []span { return []span{textSpan(f.Name)} })
}

func numberSpans(l []int) []span {
	return spansOf(l, func(int) []span { return nil })
}

// linkedSpans are those of all texts that an answer could have taken, and of the lists that have them.
func linkedSpans(l api.Linked) []span {
	mods := spansOf(l.Graph.Mods, func(m api.Mod) []span { return treeSpans(m.Tree) })
	scopes := spansOf(l.Scopes, func(s api.Scope) []span {
		tops := spansOf(s.Tops, func(top api.Top) []span { return []span{textSpan(top.Name)} })
		return append(tops, spansOf(s.Uses, func(u api.Use) []span { return []span{textSpan(u.Name)} })...)
	})
	names := func(e api.Entry) []span { return []span{textSpan(e.Here), textSpan(e.There)} }
	entries := spansOf(l.Entries, func(e api.Entries) []span {
		return slices.Concat(spansOf(e.Imports, names), spansOf(e.Own, names), spansOf(e.Others, names), spansOf(e.Stars, names))
	})
	return slices.Concat(mods, scopes, entries, spansOf(l.Founds, foundSpans))
}

// shared tells whether any two of some pieces have memory in common.
func shared(l []span) bool {
	l = slices.DeleteFunc(l, func(s span) bool { return s.from >= s.to })
	slices.SortFunc(l, func(a, b span) int {
		if a.from < b.from {
			return -1
		}
		return 1
	})
	for i := 1; i < len(l); i++ {
		if l[i].from < l[i-1].to {
			return true
		}
	}
	return false
}

// roomy is a list with room behind it, and something in that.
func roomy[T any](l []T, one func(T) T, behind T) []T {
	c := make([]T, 0, len(l)+2)
	for _, e := range l {
		c = append(c, one(e))
	}
	return append(c, behind, behind)[:len(l)]
}

func same[T any](e T) T { return e }

func roomyTree(n api.Node) api.Node {
	return api.Node{Kind: n.Kind, Text: strings.Clone(n.Text), N: n.N, Kids: roomy(n.Kids, roomyTree, api.Node{Kind: api.Name, Text: "behind"})}
}

func roomyLinked(l api.Linked) api.Linked {
	mod := func(m api.Mod) api.Mod {
		return api.Mod{Path: m.Path, Tree: roomyTree(m.Tree), Requests: roomy(m.Requests, same, api.Request{Text: "./none"})}
	}
	scope := func(s api.Scope) api.Scope {
		return api.Scope{Tops: roomy(s.Tops, same, api.Top{Name: "behind"}), Uses: roomy(s.Uses, same, api.Use{Name: "behind"})}
	}
	entry := func(e api.Entries) api.Entries {
		behind := api.Entry{Here: "behind"}
		return api.Entries{Imports: roomy(e.Imports, same, behind), Own: roomy(e.Own, same, behind), Others: roomy(e.Others, same, behind), Stars: roomy(e.Stars, same, behind)}
	}
	founds := func(l []api.Found) []api.Found { return roomy(l, same, api.Found{Name: "behind"}) }
	return api.Linked{
		Graph:  api.Graph{Mods: roomy(l.Graph.Mods, mod, api.Mod{Path: "/none"})},
		Scopes: roomy(l.Scopes, scope, api.Scope{}), Entries: roomy(l.Entries, entry, api.Entries{}), Founds: roomy(l.Founds, founds, nil),
	}
}

// appendTree tells a tree with what lies behind its lists.
func appendTree(s []byte, n api.Node) []byte {
	s = fmt.Appendf(s, "%d %q %d %d(", n.Kind, n.Text, n.N, len(n.Kids))
	for _, k := range n.Kids[:cap(n.Kids)] {
		s = appendTree(s, k)
	}
	return append(s, ')')
}

// whole tells a linked graph with what lies behind its lists.
func whole(l api.Linked) string {
	var s []byte
	for _, m := range l.Graph.Mods[:cap(l.Graph.Mods)] {
		s = fmt.Appendf(appendTree(s, m.Tree), "%s %v", m.Path, m.Requests[:cap(m.Requests)])
	}
	for _, one := range l.Scopes[:cap(l.Scopes)] {
		s = fmt.Append(s, one.Tops[:cap(one.Tops)], one.Uses[:cap(one.Uses)])
	}
	for _, e := range l.Entries[:cap(l.Entries)] {
		s = fmt.Append(s, e.Imports[:cap(e.Imports)], e.Own[:cap(e.Own)], e.Others[:cap(e.Others)], e.Stars[:cap(e.Stars)])
	}
	for _, f := range l.Founds[:cap(l.Founds)] {
		s = fmt.Append(s, f[:cap(f)])
	}
	return string(s)
}

// R4, R5: a tree stays as it was, what lies behind its lists too, and plays no part in the answer; it is the same each time.
func TestTreesStay(t *testing.T) {
	for seed := range int64(2000) {
		g := grower{rand.New(rand.NewSource(seed)), []int{0, 3, 10, 30}[seed%4]}
		plain := []api.Node{g.expr(4), g.item(3)}[seed/4%2]
		n := roomyTree(plain)
		before := string(appendTree(nil, n))
		for range 2 {
			if Expr(n) != Expr(plain) || Item(n) != Item(plain) {
				t.Fatalf("%v: otherwise with room behind its lists", plain)
			}
		}
		if string(appendTree(nil, n)) != before {
			t.Fatalf("%v is changed", plain)
		}
	}
}

// R4, R5: a linked graph stays as it was, what lies behind its lists too; what is answered is the same each time, and shares no memory with it, with another answer, or with itself.
func TestMentionsMemory(t *testing.T) {
	t.Parallel()
	for seed := range int64(200) {
		sources, plain := made(t, seed)
		l := roomyLinked(plain)
		before := whole(l)
		spans := linkedSpans(l)
		var kept [][]api.Found
		var keptValues [][]int
		for mod, m := range l.Graph.Mods {
			for item := range m.Tree.Kids {
				one, two := Mentions(l, mod, item), Mentions(l, mod, item)
				want := told(Mentions(plain, mod, item))
				if told(one) != want || told(two) != want {
					t.Fatalf("%q: %s, then %s, want %s", sources, told(one), told(two), want)
				}
				values, again := Values(l, mod, item), Values(l, mod, item)
				if !slices.Equal(values, again) {
					t.Fatalf("%q: %v, then %v", sources, values, again)
				}
				kept, keptValues = append(kept, one, two), append(keptValues, values, again)
				spans = slices.Concat(spans, foundSpans(one), foundSpans(two), numberSpans(values), numberSpans(again))
			}
		}
		if whole(l) != before {
			t.Fatalf("%q: what was handed in is changed", sources)
		}
		if shared(spans) {
			t.Fatalf("%q: memory is shared", sources)
		}
		runtime.KeepAlive(kept)
		runtime.KeepAlive(keptValues)
	}
}

// R4: what is done to an answer shows nowhere; nor does what is done to the graph show in an answer.
func TestMentionsKept(t *testing.T) {
	l := linked(t, "import * as n from './b'; let q = 1; [n.long, n.other, n, n.m, n.long, q];", "export let long = 1; export let other = 2; export * as m from './c';", "export let z = 1;")
	const want = "0.q 1.long 1.other 1.* 2.*"
	one, two := Mentions(l, 0, 2), Values(l, 0, 2)
	for i := range one[:cap(one)] {
		one[:cap(one)][i] = api.Found{Kind: api.FoundOne, Mod: 9, Name: "over"}
	}
	for i := range two[:cap(two)] {
		two[:cap(two)][i] = 9
	}
	mentions(t, l, 0, 2, want)
	three := Mentions(l, 0, 2)
	clear(l.Graph.Mods[0].Tree.Kids)
	clear(l.Scopes[0].Uses)
	clear(l.Entries[1].Own)
	clear(l.Founds[0])
	if got := told(three); got != want {
		t.Errorf("%s, want %s", got, want)
	}
}

// R3: lists that are empty may be nil or not.
func TestEmptyLists(t *testing.T) {
	l := linked(t, "import * as n from './b'; class C { constructor() { n; } m() { } } [n.x(), { }, new C(), () => { }];", "export let x = 1;")
	var fill func(n *api.Node)
	fill = func(n *api.Node) {
		if n.Kids == nil {
			n.Kids = []api.Node{}
		}
		for i := range n.Kids {
			fill(&n.Kids[i])
		}
	}
	for i := range l.Graph.Mods {
		fill(&l.Graph.Mods[i].Tree)
	}
	l.Founds[1], l.Entries[1].Imports, l.Entries[1].Stars, l.Entries[1].Others = []api.Found{}, []api.Entry{}, []api.Entry{}, []api.Entry{}
	mentions(t, l, 0, 1, "1.*")
	mentions(t, l, 0, 2, "0.C 1.x")
	mentions(t, api.Linked{Graph: api.Graph{Mods: []api.Mod{}}, Scopes: []api.Scope{}, Entries: []api.Entries{}, Founds: [][]api.Found{}}, 0, 0, "")
	for _, kids := range [][]api.Node{nil, {}} {
		if !Expr(api.Node{Kind: api.Array, Kids: kids}) || !Item(api.Node{Kind: api.Class, Text: "C", Kids: kids}) {
			t.Error("what is empty is not pure")
		}
	}
}

package check

import (
	"fmt"
	"runtime"
	"slices"
	"strings"
	"testing"
	"unsafe"

	"gusset/api"
)

// A span is where a piece of memory begins and ends.
type span struct{ from, to uintptr }

func textSpan(s string) span {
	from := uintptr(unsafe.Pointer(unsafe.StringData(s)))
	return span{from, from + uintptr(len(s))}
}

// spansOf are those of a list, its spare room too, and of what each element has.
func spansOf[T any](l []T, each func(T) []span) []span {
	from := uintptr(unsafe.Pointer(unsafe.SliceData(l)))
	var one T
	spans := []span{{from, from + uintptr(cap(l))*unsafe.Sizeof(one)}}
	for _, e := range l {
		spans = append(spans, each(e)...)
	}
	return spans
}

func nameSpans(s string) []span { return []span{textSpan(s)} }

func typeSpans(t api.Type) []span {
	return append(spansOf(t.Names, nameSpans), spansOf(t.List, typeSpans)...)
}

func slotSpans(s api.Slot) []span {
	return append(typeSpans(s.Type), textSpan(s.Name))
}

func signSpans(s api.Signs) []span {
	classes := spansOf(s.Classes, func(c api.ClassInfo) []span {
		return slices.Concat(nameSpans(c.Name), spansOf(c.Params, typeSpans), spansOf(c.Members, slotSpans))
	})
	return append(classes, spansOf(s.Tops, func(l []api.Slot) []span { return spansOf(l, slotSpans) })...)
}

func treeSpans(n api.Node) []span {
	return append(spansOf(n.Kids, treeSpans), textSpan(n.Text))
}

// shared tells whether any two of some pieces have memory in common.
func shared(l []span) bool {
	l = slices.DeleteFunc(l, func(s span) bool { return s.from >= s.to })
	slices.SortFunc(l, func(a, b span) int {
		if a.from < b.from {
			return -1
		}
		return 1
	})
	for i := 1; i < len(l); i++ {
		if l[i].from < l[i-1].to {
			return true
		}
	}
	return false
}

// roomy is a list with room behind it, and something in that.
func roomy[T any](l []T, one func(T) T, behind T) []T {
	c := make([]T, 0, len(l)+2)
	for _, e := range l {
		c = append(c, one(e))
	}
	return append(c, behind, behind)[:len(l)]
}

func same[T any](e T) T { return e }

func roomyTree(n api.Node) api.Node {
	return api.Node{Kind: n.Kind, Text: strings.Clone(n.Text), N: n.N, Kids: roomy(n.Kids, roomyTree, api.Node{Kind: api.Unary, Text: "-", Kids: []api.Node{{Kind: api.Null}}})}
}

func roomyType(t api.Type) api.Type {
	return api.Type{Kind: t.Kind, N: t.N, Names: roomy(t.Names, strings.Clone, "behind"), List: roomy(t.List, roomyType, api.Type{Kind: 77})}
}

func roomySlots(l []api.Slot) []api.Slot {
	return roomy(l, func(s api.Slot) api.Slot { return api.Slot{Name: strings.Clone(s.Name), Type: roomyType(s.Type)} }, api.Slot{Name: "behind"})
}

func roomySigns(s api.Signs) api.Signs {
	class := func(c api.ClassInfo) api.ClassInfo {
		return api.ClassInfo{Mod: c.Mod, Name: strings.Clone(c.Name), Params: roomy(c.Params, roomyType, api.Type{}), Members: roomySlots(c.Members)}
	}
	return api.Signs{Classes: roomy(s.Classes, class, api.ClassInfo{}), Tops: roomy(s.Tops, roomySlots, nil)}
}

func roomyLinked(l api.Linked) api.Linked {
	mod := func(m api.Mod) api.Mod {
		return api.Mod{Path: m.Path, Tree: roomyTree(m.Tree), Requests: roomy(m.Requests, same, api.Request{Text: "./none"})}
	}
	scope := func(s api.Scope) api.Scope {
		return api.Scope{Tops: roomy(s.Tops, same, api.Top{Name: "behind"}), Uses: roomy(s.Uses, same, api.Use{Name: "behind"})}
	}
	entry := func(e api.Entries) api.Entries {
		behind := api.Entry{Here: "behind"}
		return api.Entries{Imports: roomy(e.Imports, same, behind), Own: roomy(e.Own, same, behind), Others: roomy(e.Others, same, behind), Stars: roomy(e.Stars, same, behind)}
	}
	founds := func(l []api.Found) []api.Found { return roomy(l, same, api.Found{Name: "behind"}) }
	return api.Linked{
		Graph:  api.Graph{Mods: roomy(l.Graph.Mods, mod, api.Mod{Path: "/none"})},
		Scopes: roomy(l.Scopes, scope, api.Scope{}), Entries: roomy(l.Entries, entry, api.Entries{}), Founds: roomy(l.Founds, founds, nil),
	}
}

func appendTree(s []byte, n api.Node) []byte {
	s = fmt.Appendf(s, "%d %q %d %d(", n.Kind, n.Text, n.N, len(n.Kids))
	for _, k := range n.Kids[:cap(n.Kids)] {
		s = appendTree(s, k)
	}
	return append(s, ')')
}

// whole tells a linked graph with what lies behind its lists.
func whole(l api.Linked) string {
	var s []byte
	for _, m := range l.Graph.Mods[:cap(l.Graph.Mods)] {
		s = fmt.Appendf(appendTree(s, m.Tree), "%s %v", m.Path, m.Requests[:cap(m.Requests)])
	}
	for _, one := range l.Scopes[:cap(l.Scopes)] {
		s = fmt.Append(s, one.Tops[:cap(one.Tops)], one.Uses[:cap(one.Uses)])
	}
	for _, e := range l.Entries[:cap(l.Entries)] {
		s = fmt.Append(s, e.Imports[:cap(e.Imports)], e.Own[:cap(e.Own)], e.Others[:cap(e.Others)], e.Stars[:cap(e.Stars)])
	}
	for _, f := range l.Founds[:cap(l.Founds)] {
		s = fmt.Append(s, f[:cap(f)])
	}
	return string(s)
}

// appendWholeType tells a type with what lies behind its lists.
func appendWholeType(s []byte, t api.Type) []byte {
	s = fmt.Append(s, t.Kind, t.N, t.Names[:cap(t.Names)])
	for _, part := range t.List[:cap(t.List)] {
		s = append(appendWholeType(append(s, '('), part), ')')
	}
	return s
}

func wholeSigns(signs api.Signs) string {
	var s []byte
	slots := func(l []api.Slot) {
		for _, one := range l[:cap(l)] {
			s = appendWholeType(append(s, one.Name...), one.Type)
		}
	}
	for _, c := range signs.Classes[:cap(signs.Classes)] {
		s = fmt.Append(s, c.Mod, c.Name)
		for _, p := range c.Params[:cap(c.Params)] {
			s = appendWholeType(s, p)
		}
		slots(c.Members)
	}
	for _, l := range signs.Tops[:cap(signs.Tops)] {
		slots(l)
	}
	return string(s)
}

func overwriteTypes(l []api.Type) {
	for i, t := range l[:cap(l)] {
		overwriteTypes(t.List)
		for j := range t.Names[:cap(t.Names)] {
			t.Names[:cap(t.Names)][j] = "over"
		}
		l[:cap(l)][i] = api.Type{Kind: 99}
	}
}

// R4, R5: what is handed in stays as it was, what lies behind its lists too; Check tells the same each time.
func TestCheckMemory(t *testing.T) {
	t.Parallel()
	for seed := range int64(300) {
		plain, plainSigns, sources, ok := made(t, seed)
		if !ok {
			continue
		}
		l, s := roomyLinked(plain), roomySigns(plainSigns)
		before := whole(l) + wholeSigns(s)
		mod, at, err := Check(plain, plainSigns)
		for range 2 {
			if gotMod, gotAt, got := Check(l, s); gotMod != mod || gotAt != at || got != err {
				t.Fatalf("%q: %d %d %d, then %d %d %d", sources, mod, at, err, gotMod, gotAt, got)
			}
		}
		if whole(l)+wholeSigns(s) != before {
			t.Fatalf("%q: what was handed in is changed", sources)
		}
	}
}

// R4, R5: the same of TypeOf; what it answers shares no memory with what it was handed, with another answer, or with itself.
func TestTypeOfMemory(t *testing.T) {
	t.Parallel()
	told4 := 0
	for seed := range int64(20) {
		plain, plainSigns, sources, ok := made(t, seed)
		if !ok {
			continue
		}
		l, s := roomyLinked(plain), roomySigns(plainSigns)
		before := whole(l) + wholeSigns(s)
		for mod, m := range l.Graph.Mods {
			handed := append(treeSpans(m.Tree), signSpans(s)...)
			for at := 0; at < len(spotsOf(&m.Tree)); at += 3 {
				one, err := TypeOf(l, s, mod, at)
				two, err2 := TypeOf(l, s, mod, at)
				want := told(two)
				if told(one) != want || err != err2 {
					t.Fatalf("%q: %s, then %s", sources, told(one), want)
				}
				if len(one.List) > 0 && told4%4 == 0 && shared(slices.Concat(handed, typeSpans(one), typeSpans(two))) {
					t.Fatalf("%q: memory is shared", sources)
				}
				overwriteTypes([]api.Type{one})
				if told(two) != want {
					t.Fatalf("%q: what is done to an answer shows", sources)
				}
				told4++
				runtime.KeepAlive(one)
			}
		}
		if whole(l)+wholeSigns(s) != before {
			t.Fatalf("%q: what was handed in is changed", sources)
		}
	}
	if told4 < 1000 {
		t.Error(told4)
	}
}

// R4: what comes from Signs, from another expression or from a part of it stands in new memory each time.
func TestMemoryOfParts(t *testing.T) {
	l, s := linked(t, "type T = { a: number[]; b: null; }; let x: T = [][0]; const y = { p: x, q: x, r: [x, x.a] }; function f(a: T, b: T): T { return a; } class C { t: T = x; } const c = new C(); "+
		"y; f; f(x, x); x.a; y.q.a; c.t; [x, x]; 1 ? x : c; x = x; y.p = x; (a: T, b: T) => f; print; push; { function g(a: T): T { return a; } g; }")
	if _, at, err := Check(l, s); err != api.OK {
		t.Fatal(textAt(l, 0, at), err)
	}
	l, s = roomyLinked(l), roomySigns(s)
	var spans []span
	var kept []api.Type
	for at := range spotsOf(&l.Graph.Mods[0].Tree) {
		if one, err := TypeOf(l, s, 0, at); err == api.OK {
			spans = append(spans, typeSpans(one)...)
			kept = append(kept, one)
		}
	}
	if len(kept) < 40 || shared(slices.Concat(spans, treeSpans(l.Graph.Mods[0].Tree), signSpans(s))) {
		t.Error("memory is shared", len(kept))
	}
	runtime.KeepAlive(kept)
}

// R3: lists that are empty may be nil or not.
func TestEmptyLists(t *testing.T) {
	const source = "class C { constructor() { } m() { } } type T = { }; let x: T = { }; function f() { return []; } f(); new C().m(); if (1) { } while (2) { }"
	l, s := linked(t, source)
	var fill func(n *api.Node)
	fill = func(n *api.Node) {
		if n.Kids == nil {
			n.Kids = []api.Node{}
		}
		for i := range n.Kids {
			fill(&n.Kids[i])
		}
	}
	fill(&l.Graph.Mods[0].Tree)
	l.Founds[0], l.Entries[0].Imports, l.Entries[0].Stars = []api.Found{}, []api.Entry{}, []api.Entry{}
	s.Classes[0].Params = []api.Type{}
	if mod, at, err := Check(l, s); mod != 0 || at != 0 || err != api.OK {
		t.Error(mod, at, err)
	}
	for _, none := range []api.Linked{{}, {Graph: api.Graph{Mods: []api.Mod{}}, Scopes: []api.Scope{}, Entries: []api.Entries{}, Founds: [][]api.Found{}}} {
		if mod, at, err := Check(none, api.Signs{Classes: []api.ClassInfo{}, Tops: [][]api.Slot{}}); mod != 0 || at != 0 || err != api.OK {
			t.Error(mod, at, err)
		}
	}
}

package sign

import (
	"fmt"
	"runtime"
	"slices"
	"strings"
	"testing"
	"unsafe"

	"gusset/api"
)

// A span is where a piece of memory begins and ends.
type span struct{ from, to uintptr }

func textSpan(s string) span {
	from := uintptr(unsafe.Pointer(unsafe.StringData(s)))
	return span{from, from + uintptr(len(s))}
}

// spansOf are those of a list, its spare room too, and of what each element has.
func spansOf[T any](l []T, each func(T) []span) []span {
	from := uintptr(unsafe.Pointer(unsafe.SliceData(l)))
	var one T
	spans := []span{{from, from + uintptr(cap(l))*unsafe.Sizeof(one)}}
	for _, e := range l {
		spans = append(spans, each(e)...)
	}
	return spans
}

func nameSpans(s string) []span { return []span{textSpan(s)} }

func typeSpans(t api.Type) []span {
	return append(spansOf(t.Names, nameSpans), spansOf(t.List, typeSpans)...)
}

func slotSpans(s api.Slot) []span {
	return append(typeSpans(s.Type), textSpan(s.Name))
}

func signSpans(s api.Signs) []span {
	classes := spansOf(s.Classes, func(c api.ClassInfo) []span {
		return slices.Concat(nameSpans(c.Name), spansOf(c.Params, typeSpans), spansOf(c.Members, slotSpans))
	})
	return append(classes, spansOf(s.Tops, func(l []api.Slot) []span { return spansOf(l, slotSpans) })...)
}

func treeSpans(n api.Node) []span {
	return append(spansOf(n.Kids, treeSpans), textSpan(n.Text))
}

func linkedSpans(l api.Linked) []span {
	mods := spansOf(l.Graph.Mods, func(m api.Mod) []span { return treeSpans(m.Tree) })
	scopes := spansOf(l.Scopes, func(s api.Scope) []span {
		return spansOf(s.Tops, func(top api.Top) []span { return nameSpans(top.Name) })
	})
	founds := spansOf(l.Founds, func(l []api.Found) []span {
		return spansOf(l, func(f api.Found) []span { return nameSpans(f.Name) })
	})
	return slices.Concat(mods, scopes, founds)
}

// shared tells whether any two of some pieces have memory in common.
func shared(l []span) bool {
	l = slices.DeleteFunc(l, func(s span) bool { return s.from >= s.to })
	slices.SortFunc(l, func(a, b span) int {
		if a.from < b.from {
			return -1
		}
		return 1
	})
	for i := 1; i < len(l); i++ {
		if l[i].from < l[i-1].to {
			return true
		}
	}
	return false
}

// roomy is a list with room behind it, and something in that.
func roomy[T any](l []T, one func(T) T, behind T) []T {
	c := make([]T, 0, len(l)+2)
	for _, e := range l {
		c = append(c, one(e))
	}
	return append(c, behind, behind)[:len(l)]
}

func same[T any](e T) T { return e }

func roomyTree(n api.Node) api.Node {
	return api.Node{Kind: n.Kind, Text: strings.Clone(n.Text), N: n.N, Kids: roomy(n.Kids, roomyTree, api.Node{Kind: api.TypeName, Text: "number"})}
}

func roomyType(t api.Type) api.Type {
	return api.Type{Kind: t.Kind, N: t.N, Names: roomy(t.Names, strings.Clone, "behind"), List: roomy(t.List, roomyType, api.Type{Kind: 77})}
}

func roomySlots(l []api.Slot) []api.Slot {
	return roomy(l, func(s api.Slot) api.Slot { return api.Slot{Name: strings.Clone(s.Name), Type: roomyType(s.Type)} }, api.Slot{Name: "behind"})
}

func roomySigns(s api.Signs) api.Signs {
	class := func(c api.ClassInfo) api.ClassInfo {
		return api.ClassInfo{Mod: c.Mod, Name: strings.Clone(c.Name), Params: roomy(c.Params, roomyType, api.Type{}), Members: roomySlots(c.Members)}
	}
	return api.Signs{Classes: roomy(s.Classes, class, api.ClassInfo{}), Tops: roomy(s.Tops, roomySlots, nil)}
}

func roomyLinked(l api.Linked) api.Linked {
	mod := func(m api.Mod) api.Mod {
		return api.Mod{Path: m.Path, Tree: roomyTree(m.Tree), Requests: roomy(m.Requests, same, api.Request{Text: "./none"})}
	}
	scope := func(s api.Scope) api.Scope {
		return api.Scope{Tops: roomy(s.Tops, same, api.Top{Name: "behind"}), Uses: roomy(s.Uses, same, api.Use{Name: "behind"})}
	}
	entry := func(e api.Entries) api.Entries {
		behind := api.Entry{Here: "behind"}
		return api.Entries{Imports: roomy(e.Imports, same, behind), Own: roomy(e.Own, same, behind), Others: roomy(e.Others, same, behind), Stars: roomy(e.Stars, same, behind)}
	}
	founds := func(l []api.Found) []api.Found { return roomy(l, same, api.Found{Name: "behind"}) }
	return api.Linked{
		Graph:  api.Graph{Mods: roomy(l.Graph.Mods, mod, api.Mod{Path: "/none"})},
		Scopes: roomy(l.Scopes, scope, api.Scope{}), Entries: roomy(l.Entries, entry, api.Entries{}), Founds: roomy(l.Founds, founds, nil),
	}
}

func appendTree(s []byte, n api.Node) []byte {
	s = fmt.Appendf(s, "%d %q %d %d(", n.Kind, n.Text, n.N, len(n.Kids))
	for _, k := range n.Kids[:cap(n.Kids)] {
		s = appendTree(s, k)
	}
	return append(s, ')')
}

// whole tells a linked graph with what lies behind its lists.
func whole(l api.Linked) string {
	var s []byte
	for _, m := range l.Graph.Mods[:cap(l.Graph.Mods)] {
		s = fmt.Appendf(appendTree(s, m.Tree), "%s %v", m.Path, m.Requests[:cap(m.Requests)])
	}
	for _, one := range l.Scopes[:cap(l.Scopes)] {
		s = fmt.Append(s, one.Tops[:cap(one.Tops)], one.Uses[:cap(one.Uses)])
	}
	for _, e := range l.Entries[:cap(l.Entries)] {
		s = fmt.Append(s, e.Imports[:cap(e.Imports)], e.Own[:cap(e.Own)], e.Others[:cap(e.Others)], e.Stars[:cap(e.Stars)])
	}
	for _, f := range l.Founds[:cap(l.Founds)] {
		s = fmt.Append(s, f[:cap(f)])
	}
	return string(s)
}

// wholeType tells a type with what lies behind its lists.
func wholeType(t api.Type) string {
	s := fmt.Sprint(t.Kind, t.N, t.Names[:cap(t.Names)])
	for _, part := range t.List[:cap(t.List)] {
		s += "(" + wholeType(part) + ")"
	}
	return s
}

func wholeSigns(s api.Signs) string {
	text := ""
	slots := func(l []api.Slot) {
		for _, one := range l[:cap(l)] {
			text += one.Name + wholeType(one.Type)
		}
	}
	for _, c := range s.Classes[:cap(s.Classes)] {
		text += fmt.Sprint(c.Mod, c.Name)
		for _, p := range c.Params[:cap(c.Params)] {
			text += wholeType(p)
		}
		slots(c.Members)
	}
	for _, l := range s.Tops[:cap(s.Tops)] {
		slots(l)
	}
	return text
}

func overwriteTypes(l []api.Type) {
	for i, t := range l[:cap(l)] {
		overwriteTypes(t.List)
		for j := range t.Names[:cap(t.Names)] {
			t.Names[:cap(t.Names)][j] = "over"
		}
		l[:cap(l)][i] = api.Type{Kind: 99}
	}
}

// overwrite changes all that Signs have.
func overwrite(s api.Signs) {
	slots := func(l []api.Slot) {
		for i := range l {
			overwriteTypes(l[i].Type.List)
			l[i] = api.Slot{Name: "over"}
		}
	}
	for i, c := range s.Classes {
		overwriteTypes(c.Params)
		slots(c.Members)
		s.Classes[i] = api.ClassInfo{}
	}
	for i, l := range s.Tops {
		slots(l)
		s.Tops[i] = nil
	}
}

// R4, R5: what is handed in stays as it was, what lies behind its lists too; what Sign answers is the same each time, and shares no memory with it, with another answer, or with itself.
func TestSignMemory(t *testing.T) {
	for seed := range int64(300) {
		_, sources, plain, ok := made(t, seed)
		if !ok {
			continue
		}
		l := roomyLinked(plain)
		before := whole(l)
		one, mod, err := Sign(l)
		two, mod2, err2 := Sign(l)
		three, _, _ := Sign(plain)
		want := toldSigns(one)
		if toldSigns(two) != want || toldSigns(three) != want || mod != mod2 || err != err2 {
			t.Fatalf("%q: %s, then %s", sources, want, toldSigns(two))
		}
		if whole(l) != before {
			t.Fatalf("%q: what was handed in is changed", sources)
		}
		if shared(slices.Concat(linkedSpans(l), signSpans(one), signSpans(two))) {
			t.Fatalf("%q: memory is shared", sources)
		}
		overwrite(one)
		if toldSigns(two) != want || whole(l) != before {
			t.Fatalf("%q: what is done to an answer shows", sources)
		}
		runtime.KeepAlive(one)
	}
}

// R4, R5: the same of Type, which is handed the signs, too.
func TestTypeMemory(t *testing.T) {
	types := 0
	for seed := range int64(25) {
		_, sources, plain, ok := made(t, seed)
		if !ok {
			continue
		}
		l := roomyLinked(plain)
		s, _, _ := Sign(l)
		s = roomySigns(s)
		before := whole(l) + wholeSigns(s)
		for mod, m := range l.Graph.Mods {
			for _, n := range typeTrees(m.Tree) {
				one, err := Type(l, s, mod, n)
				two, err2 := Type(l, s, mod, n)
				want := told(two)
				if told(one) != want || err != err2 {
					t.Fatalf("%q: %s, then %s", sources, told(one), want)
				}
				if shared(slices.Concat(treeSpans(n), signSpans(s), typeSpans(one), typeSpans(two))) {
					t.Fatalf("%q: memory is shared", sources)
				}
				overwriteTypes([]api.Type{one})
				if told(two) != want {
					t.Fatalf("%q: what is done to an answer shows", sources)
				}
				types++
			}
		}
		if whole(l)+wholeSigns(s) != before {
			t.Fatalf("%q: what was handed in is changed", sources)
		}
	}
	if types < 1000 {
		t.Error(types)
	}
}

// R4: what one alias says stands in new memory wherever the alias is named.
func TestMemoryOfAlias(t *testing.T) {
	l := linked(t, "type T = { a: number[]; b: null; }; type U = T; let x: T = null; let y: (a: T, b: U) => T[] = null; class C { x: T = null; y: U = null; constructor(a: T, b: T) { } m(a: T): T { } }")
	s, _, err := Sign(l)
	if err != api.OK || shared(signSpans(s)) {
		t.Error("memory is shared", err)
	}
	for _, signs := range []api.Signs{s, {}} {
		got, err := Type(l, signs, 0, tree("{ a: T; b: (a: T, b: U) => U[]; }"))
		if err != api.OK || shared(append(typeSpans(got), signSpans(signs)...)) {
			t.Error("memory is shared", err)
		}
	}
}

// R3: lists that are empty may be nil or not.
func TestEmptyLists(t *testing.T) {
	l := linked(t, "class C { constructor() { } m() { } } type T = { }; let x: T = { }; function f() { }")
	want, _, _ := Sign(l)
	var fill func(n *api.Node)
	fill = func(n *api.Node) {
		if n.Kids == nil {
			n.Kids = []api.Node{}
		}
		for i := range n.Kids {
			fill(&n.Kids[i])
		}
	}
	fill(&l.Graph.Mods[0].Tree)
	l.Founds[0], l.Entries[0].Imports = []api.Found{}, []api.Entry{}
	if got, mod, err := Sign(l); mod != 0 || err != api.OK || toldSigns(got) != toldSigns(want) {
		t.Errorf("%d, %d, %s", mod, err, toldSigns(got))
	}
	for _, none := range []api.Linked{{}, {Graph: api.Graph{Mods: []api.Mod{}}, Scopes: []api.Scope{}, Entries: []api.Entries{}, Founds: [][]api.Found{}}} {
		if s, mod, err := Sign(none); len(s.Classes) != 0 || len(s.Tops) != 0 || mod != 0 || err != api.OK {
			t.Error(s, mod, err)
		}
	}
	got, err := Type(l, api.Signs{Classes: []api.ClassInfo{}, Tops: [][]api.Slot{}}, 0, api.Node{Kind: api.TypeObject, Kids: []api.Node{}})
	if told(got) != told(api.Type{Kind: api.TypeRecord}) || err != api.OK {
		t.Error(got, err)
	}
}

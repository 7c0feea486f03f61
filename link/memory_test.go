package link

import (
	"fmt"
	"runtime"
	"slices"
	"strings"
	"testing"
	"unsafe"

	"gusset/api"
)

// A span is where a piece of memory begins and ends.
type span struct{ from, to uintptr }

func textSpan(s string) span {
	from := uintptr(unsafe.Pointer(unsafe.StringData(s)))
	return span{from, from + uintptr(len(s))}
}

// spansOf are those of a list, its spare room too, and of what each element has.
func spansOf[T any](l []T, each func(T) []span) []span {
	from := uintptr(unsafe.Pointer(unsafe.SliceData(l)))
	var one T
	spans := []span{{from, from + uintptr(cap(l))*unsafe.Sizeof(one)}}
	for _, e := range l {
		spans = append(spans, each(e)...)
	}
	return spans
}

func treeSpans(n api.Node) []span {
	return append(spansOf(n.Kids, treeSpans), textSpan(n.Text))
}

func graphSpans(g api.Graph) []span {
	return spansOf(g.Mods, func(m api.Mod) []span {
		requests := spansOf(m.Requests, func(r api.Request) []span { return []span{textSpan(r.Text)} })
		return slices.Concat(treeSpans(m.Tree), requests, []span{textSpan(m.Path)})
	})
}

func scopeSpans(s api.Scope) []span {
	tops := spansOf(s.Tops, func(top api.Top) []span { return []span{textSpan(top.Name)} })
	return append(tops, spansOf(s.Uses, func(u api.Use) []span { return []span{textSpan(u.Name)} })...)
}

func entrySpans(e api.Entries) []span {
	names := func(e api.Entry) []span { return []span{textSpan(e.Here), textSpan(e.There)} }
	return slices.Concat(spansOf(e.Imports, names), spansOf(e.Own, names), spansOf(e.Others, names), spansOf(e.Stars, names))
}

func foundSpans(l []api.Found) []span {
	return spansOf(l, func(f api.Found) []span { return []span{textSpan(f.Name)} })
}

func (a answer) spans() []span {
	l := a.linked
	return slices.Concat([]span{textSpan(a.name)}, graphSpans(l.Graph), spansOf(l.Scopes, scopeSpans), spansOf(l.Entries, entrySpans), spansOf(l.Founds, foundSpans))
}

// shared tells whether any two of some pieces have memory in common.
func shared(l []span) bool {
	l = slices.DeleteFunc(l, func(s span) bool { return s.from >= s.to })
	slices.SortFunc(l, func(a, b span) int {
		if a.from < b.from {
			return -1
		}
		return 1
	})
	for i := 1; i < len(l); i++ {
		if l[i].from < l[i-1].to {
			return true
		}
	}
	return false
}

// roomy is a list with room behind it, and something in that.
func roomy[T any](l []T, one func(T) T, behind T) []T {
	c := make([]T, 0, len(l)+2)
	for _, e := range l {
		c = append(c, one(e))
	}
	return append(c, behind, behind)[:len(l)]
}

func roomyTree(n api.Node) api.Node {
	return api.Node{Kind: n.Kind, Text: strings.Clone(n.Text), N: n.N, Kids: roomy(n.Kids, roomyTree, api.Node{Kind: 77})}
}

func roomyGraph(g api.Graph) api.Graph {
	mod := func(m api.Mod) api.Mod {
		request := func(r api.Request) api.Request {
			r.Text = strings.Clone(r.Text)
			return r
		}
		return api.Mod{Path: strings.Clone(m.Path), Tree: roomyTree(m.Tree), Requests: roomy(m.Requests, request, api.Request{Text: "./none", Target: 77})}
	}
	return api.Graph{Mods: roomy(g.Mods, mod, api.Mod{Path: "/none"})}
}

func wholeTree(n api.Node) string {
	told := fmt.Sprint(n.Kind, n.Text, n.N, len(n.Kids))
	for _, k := range n.Kids[:cap(n.Kids)] {
		told += " (" + wholeTree(k) + ")"
	}
	return told
}

// whole tells a graph with what lies behind its lists.
func whole(g api.Graph) string {
	told := fmt.Sprint(len(g.Mods))
	for _, m := range g.Mods[:cap(g.Mods)] {
		told += fmt.Sprint(m.Path, len(m.Requests), m.Requests[:cap(m.Requests)], wholeTree(m.Tree))
	}
	return told
}

// overwrite changes all that a graph has, and what lies behind it.
func overwrite(g api.Graph) {
	var change func(l []api.Node)
	change = func(l []api.Node) {
		for i, n := range l[:cap(l)] {
			change(n.Kids)
			l[:cap(l)][i] = api.Node{Kind: 88, Text: "no"}
		}
	}
	for i, m := range g.Mods[:cap(g.Mods)] {
		change(m.Tree.Kids)
		clear(m.Requests[:cap(m.Requests)])
		g.Mods[:cap(g.Mods)][i] = api.Mod{Path: "/no"}
	}
}

// R4, R5: a graph stays as it was, what lies behind its lists too; what is answered is the same each time, and shares no memory with it, with another answer, or with itself.
func TestLinkMemory(t *testing.T) {
	for seed := range int64(1000) {
		sources, plain := made(t, seed)
		g := roomyGraph(plain)
		before := whole(g)
		one := link(g)
		told := one.String()
		two := link(g)
		if whole(g) != before {
			t.Fatalf("%q: what was handed in is changed", sources)
		}
		if two.String() != told || link(plain).String() != told {
			t.Fatalf("%q: %s, then %s", sources, told, two)
		}
		if shared(slices.Concat(graphSpans(g), one.spans(), two.spans())) {
			t.Fatalf("%q: memory is shared", sources)
		}
		overwrite(g)
		if one.String() != told {
			t.Fatalf("%q: what is done to the graph shows", sources)
		}
		overwrite(one.linked.Graph)
		if two.String() != told || link(plain).String() != told {
			t.Fatalf("%q: what is done to an answer shows", sources)
		}
		runtime.KeepAlive(one)
	}
}

// R4: a name that is told of an error is a new text.
func TestFaultMemory(t *testing.T) {
	for _, sources := range [][]string{
		all("import { long } from './b';", ""),
		all("export { long } from './b';", ""),
		all("import { long } from './b'; long;", "export type long = number;"),
		all("let long = 1; export type { long };"),
		all("export type { long } from './b';", "export let long = 1;"),
	} {
		g := loaded(t, sources...)
		one, two := link(g), link(g)
		if one.name != "long" || shared(slices.Concat(graphSpans(g), one.spans(), two.spans())) {
			t.Errorf("%q: %s", sources, one)
		}
	}
}

// R4: a target's name is a new text, and what it is asked of stays as it was.
func TestTargetMemory(t *testing.T) {
	g := loaded(t, "import { long } from './b'; let other = 1; long; other;", "export let long = 1;")
	a := link(g)
	told := a.String()
	var spans []span
	var kept []string
	for _, u := range a.linked.Scopes[0].Uses {
		for range 2 {
			f := Target(a.linked, 0, u)
			Value(a.linked, f)
			kept = append(kept, f.Name)
			spans = append(spans, textSpan(f.Name))
		}
	}
	if strings.Join(kept, " ") != "long long other other" || shared(append(spans, a.spans()...)) || a.String() != told {
		t.Errorf("%q: %s", kept, a)
	}
	runtime.KeepAlive(kept)
}

// R3: lists that are empty may be nil or not.
func TestEmptyLists(t *testing.T) {
	module := api.Mod{Path: "/a.ts", Tree: api.Node{Kind: api.Module}}
	want := link(api.Graph{Mods: []api.Mod{module}}).String()
	module.Tree.Kids, module.Requests = []api.Node{}, []api.Request{}
	if got := link(api.Graph{Mods: []api.Mod{module}}).String(); got != want {
		t.Errorf("%s, want %s", got, want)
	}
	if got, want := link(api.Graph{Mods: []api.Mod{}}).String(), link(api.Graph{}).String(); got != want {
		t.Errorf("%s, want %s", got, want)
	}
}

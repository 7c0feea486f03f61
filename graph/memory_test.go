package graph

import (
	"fmt"
	"math/rand"
	"slices"
	"strings"
	"testing"
	"unsafe"

	"gusset/api"
	"gusset/vfs"
)

// A span is where a piece of memory begins and ends.
type span struct{ from, to uintptr }

func textSpan(s string) span {
	from := uintptr(unsafe.Pointer(unsafe.StringData(s)))
	return span{from, from + uintptr(len(s))}
}

func listSpan[T any](l []T) span {
	from := uintptr(unsafe.Pointer(unsafe.SliceData(l)))
	var one T
	return span{from, from + uintptr(cap(l))*unsafe.Sizeof(one)}
}

func treeSpans(n api.Node) []span {
	l := []span{textSpan(n.Text), listSpan(n.Kids)}
	for _, k := range n.Kids {
		l = append(l, treeSpans(k)...)
	}
	return l
}

func requestSpans(requests []api.Request) []span {
	l := []span{listSpan(requests)}
	for _, r := range requests {
		l = append(l, textSpan(r.Text))
	}
	return l
}

func (a answer) spans() []span {
	l := []span{listSpan(a.graph.Mods), textSpan(a.path), textSpan(a.name)}
	for _, m := range a.graph.Mods {
		l = append(l, textSpan(m.Path))
		l = slices.Concat(l, treeSpans(m.Tree), requestSpans(m.Requests))
	}
	return l
}

// shared tells whether any two of some pieces have memory in common.
func shared(l []span) bool {
	l = slices.DeleteFunc(l, func(s span) bool { return s.from >= s.to })
	slices.SortFunc(l, func(a, b span) int {
		if a.from < b.from {
			return -1
		}
		return 1
	})
	for i := 1; i < len(l); i++ {
		if l[i].from < l[i-1].to {
			return true
		}
	}
	return false
}

// R4, R5: a table stays as it was; what is answered of it is the same each time, and shares no memory with it, with the entry, or with another answer.
func TestLoadMemory(t *testing.T) {
	for seed := range int64(600) {
		m := maker{rand.New(rand.NewSource(seed))}
		files, entry := m.model().table(), strings.Clone(m.entry())
		before := files.Files()
		one := load(files, entry)
		told := one.String()
		two := load(files, entry)
		if !slices.Equal(files.Files(), before) {
			t.Fatalf("%q: what was handed in is changed: %v", entry, before)
		}
		if two.String() != told || load(files.Copy(), entry).String() != told {
			t.Fatalf("%q of %v: %s, then %s", entry, before, told, two)
		}
		if shared(slices.Concat(one.spans(), two.spans(), []span{textSpan(entry)})) {
			t.Fatalf("%q of %v: memory is shared", entry, before)
		}
		for _, mod := range one.graph.Mods {
			overwrite(mod)
		}
		if two.String() != told || load(files, entry).String() != told {
			t.Fatalf("%q of %v: what is done to an answer shows", entry, before)
		}
	}
}

func overwrite(m api.Mod) {
	for i := range m.Tree.Kids {
		m.Tree.Kids[i] = api.Node{Kind: api.Import, Text: "./none"}
	}
	for i := range m.Requests {
		m.Requests[i] = api.Request{Text: "./none", Target: -1}
	}
}

// R4: what is done to a table behind an answer does not show in it.
func TestLoadKeepsNothing(t *testing.T) {
	files := table("/a", "import './b';", "/b", "print(1);")
	one := load(files, "/a")
	told := one.String()
	files.Write("/a", "import './c';")
	files.Remove("/b")
	if one.String() != told {
		t.Errorf("%s, want %s", one, told)
	}
	refused(t, files, "/a", "/a", "./c", api.ErrNoFile)
	files.Write("/c", "")
	loaded(t, files, "/a", "/a 1, /c")
}

// R4: the requests of a tree share nothing with it, or with one another; the tree stays as it was, what lies behind its items too.
func TestRequestsMemory(t *testing.T) {
	item := api.Node{Kind: api.Import, Text: strings.Clone("./x"), N: 1}
	n := api.Node{Kind: api.Module, Kids: append(make([]api.Node, 0, 4), item, item, item, item)[:2]}
	before := fmt.Sprint(n.Kids[:4])
	one, two := Requests(n), Requests(n)
	if fmt.Sprint(n.Kids[:4]) != before || len(one) != 2 || len(two) != 2 {
		t.Errorf("%v, %v, and %v", one, two, n.Kids[:4])
	}
	if shared(slices.Concat([]span{listSpan(n.Kids), textSpan(item.Text)}, requestSpans(one), requestSpans(two))) {
		t.Error("memory is shared")
	}
	n.Kids[0].Text = "./y"
	if one[0] != (api.Request{Text: "./x", Type: true}) {
		t.Error(one)
	}
}

// R4: the path that was found is a new text.
func TestProbeMemory(t *testing.T) {
	files := table("/b", "", "/c.ts", "")
	var l []span
	for _, p := range []string{"/b", "/c"} {
		p = strings.Clone(p)
		one, _ := Probe(files, p)
		two, _ := Probe(files, p)
		l = append(l, textSpan(p), textSpan(one), textSpan(two))
	}
	if shared(l) {
		t.Error("memory is shared")
	}
	if !slices.Equal(files.Files(), []api.File{{Path: "/b"}, {Path: "/c.ts"}}) {
		t.Error(files.Files())
	}
}

// R4: an entry that leads nowhere is told as a new text.
func TestFaultMemory(t *testing.T) {
	for _, entry := range []string{"none", "/none", "/" + strings.Repeat("x", 300)} {
		entry = strings.Clone(entry)
		one, two := load(vfs.New(), entry), load(vfs.New(), entry)
		if one.name != entry || shared([]span{textSpan(entry), textSpan(one.name), textSpan(two.name)}) {
			t.Errorf("%q: %s, %s", entry, one, two)
		}
	}
	files := table("/a", "import './b'; import 'none';", "/b", "import './a';")
	if shared(slices.Concat(load(files, "/a").spans(), load(files, "/a").spans())) {
		t.Error("memory is shared")
	}
}

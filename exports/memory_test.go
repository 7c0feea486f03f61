package exports

import (
	"fmt"
	"runtime"
	"slices"
	"strings"
	"testing"
	"unsafe"

	"gusset/api"
)

// A span is where a piece of memory begins and ends.
type span struct{ from, to uintptr }

func textSpan(s string) span {
	from := uintptr(unsafe.Pointer(unsafe.StringData(s)))
	return span{from, from + uintptr(len(s))}
}

// listSpan takes the spare room in.
func listSpan[T any](l []T) span {
	from := uintptr(unsafe.Pointer(unsafe.SliceData(l)))
	var one T
	return span{from, from + uintptr(cap(l))*unsafe.Sizeof(one)}
}

func treeSpans(n api.Node) []span {
	l := []span{textSpan(n.Text), listSpan(n.Kids)}
	for _, k := range n.Kids {
		l = append(l, treeSpans(k)...)
	}
	return l
}

func entrySpans(e api.Entries) []span {
	var l []span
	for _, list := range [][]api.Entry{e.Imports, e.Own, e.Others, e.Stars} {
		l = append(l, listSpan(list))
		for _, one := range list {
			l = append(l, textSpan(one.Here), textSpan(one.There))
		}
	}
	return l
}

func nameSpans(names []string) []span {
	l := []span{listSpan(names)}
	for _, n := range names {
		l = append(l, textSpan(n))
	}
	return l
}

// shared tells whether any two of some pieces have memory in common.
func shared(l []span) bool {
	l = slices.DeleteFunc(l, func(s span) bool { return s.from >= s.to })
	slices.SortFunc(l, func(a, b span) int {
		if a.from < b.from {
			return -1
		}
		return 1
	})
	for i := 1; i < len(l); i++ {
		if l[i].from < l[i-1].to {
			return true
		}
	}
	return false
}

// roomyTree is a tree with texts of its own, with room behind each list, and something in it.
func roomyTree(n api.Node) api.Node {
	c := api.Node{Kind: n.Kind, Text: strings.Clone(n.Text), N: n.N, Kids: make([]api.Node, 0, len(n.Kids)+2)}
	for _, k := range n.Kids {
		c.Kids = append(c.Kids, roomyTree(k))
	}
	c.Kids = append(c.Kids, api.Node{Kind: 77}, api.Node{Kind: 78})[:len(n.Kids)]
	return c
}

// wholeTree tells a tree with what lies behind its lists.
func wholeTree(n api.Node) string {
	told := fmt.Sprint(n.Kind, n.Text, n.N, len(n.Kids))
	for _, k := range n.Kids[:cap(n.Kids)] {
		told += " (" + wholeTree(k) + ")"
	}
	return told
}

func roomy(l []api.Entry) []api.Entry {
	c := make([]api.Entry, 0, len(l)+2)
	for _, e := range l {
		e.Here, e.There = strings.Clone(e.Here), strings.Clone(e.There)
		c = append(c, e)
	}
	return append(c, api.Entry{Here: "x", There: "x", Mod: 77}, api.Entry{Here: "y", Mod: 78})[:len(l)]
}

// roomyEntries are entries in memory of their own, with room behind each list, and something in it.
func roomyEntries(l []api.Entries) []api.Entries {
	c := make([]api.Entries, 0, len(l)+1)
	for _, e := range l {
		c = append(c, api.Entries{Imports: roomy(e.Imports), Own: roomy(e.Own), Others: roomy(e.Others), Stars: roomy(e.Stars)})
	}
	return append(c, api.Entries{Own: roomy([]api.Entry{{Here: "none", There: "none"}})})[:len(l)]
}

// wholeEntries tells entries with what lies behind their lists.
func wholeEntries(l []api.Entries) string {
	told := fmt.Sprint(len(l))
	for _, e := range l[:cap(l)] {
		for _, list := range [][]api.Entry{e.Imports, e.Own, e.Others, e.Stars} {
			told += fmt.Sprint(" ", len(list), list[:cap(list)])
		}
	}
	return told
}

func overwrite(e api.Entries) {
	for _, list := range [][]api.Entry{e.Imports, e.Own, e.Others, e.Stars} {
		list = list[:cap(list)]
		for i := range list {
			list[i] = api.Entry{Here: "no", There: "no", Mod: -9, Item: -9}
		}
	}
}

// R4, R5: a tree and requests stay as they were; entries are the same each time, and share no memory with them, with other entries, or with one another.
func TestEntriesMemory(t *testing.T) {
	for seed := range int64(1500) {
		w := written(seed)
		n := roomyTree(read(t, strings.Join(w.source, "\n")))
		requests := append(slices.Clone(w.requests), api.Request{Text: strings.Clone("./m"), Target: 9}, api.Request{Item: 1})[:len(w.requests)]
		before, asked := wholeTree(n), fmt.Sprint(requests[:cap(requests)])
		one, two := Entries(n, requests), Entries(n, requests)
		if wholeTree(n) != before || fmt.Sprint(requests[:cap(requests)]) != asked {
			t.Fatalf("%q: what was handed in is changed", w.source)
		}
		if lists(one) != w.want() || lists(two) != w.want() {
			t.Fatalf("%q: %q, then %q", w.source, lists(one), lists(two))
		}
		if shared(slices.Concat(treeSpans(n), []span{listSpan(requests)}, entrySpans(one), entrySpans(two))) {
			t.Fatalf("%q: memory is shared", w.source)
		}
		overwrite(one)
		if lists(two) != w.want() || lists(Entries(n, requests)) != w.want() {
			t.Fatalf("%q: what is done to entries shows", w.source)
		}
		clear(n.Kids)
		clear(requests)
		if lists(two) != w.want() {
			t.Fatalf("%q: what is done to the tree shows: %q", w.source, lists(two))
		}
	}
}

// R4, R5: entries stay as they were, what lies behind them too; what is answered is the same each time, and shares no memory with them, with the name, or with another answer.
func TestResolveMemory(t *testing.T) {
	for seed := range int64(1500) {
		l := roomyEntries(made(seed))
		before := wholeEntries(l)
		// All that was answered is kept: memory that nobody holds may be given out again.
		var texts []string
		var answers [][]string
		for mod := range l {
			for _, name := range someNames {
				name = strings.Clone(name)
				one, two := Resolve(l, mod, name), Resolve(l, mod, name)
				if one != two {
					t.Fatalf("%+v: %s of %d leads to %v, then to %v", l, name, mod, one, two)
				}
				texts = append(texts, name, one.Name, two.Name)
			}
			one, two := Names(l, mod), Names(l, mod)
			if !slices.Equal(one, two) {
				t.Fatalf("%+v: %d has the names %q, then %q", l, mod, one, two)
			}
			answers = append(answers, one, two)
		}
		if wholeEntries(l) != before {
			t.Fatalf("%s, then %s", before, wholeEntries(l))
		}
		if spans := answerSpans(l, texts, answers); shared(spans) {
			t.Fatalf("%+v: memory is shared", l)
		}
		for i := 0; i < len(answers); i += 2 {
			one, two := answers[i], answers[i+1]
			clear(one[:cap(one)])
			if !slices.Equal(Names(l, i/2), two) {
				t.Fatalf("%+v: what is done to names shows", l)
			}
		}
		runtime.KeepAlive(texts)
	}
}

func answerSpans(l []api.Entries, texts []string, answers [][]string) []span {
	spans := []span{listSpan(l)}
	for _, e := range l[:cap(l)] {
		spans = append(spans, entrySpans(e)...)
	}
	for _, s := range texts {
		spans = append(spans, textSpan(s))
	}
	for _, names := range answers {
		spans = append(spans, nameSpans(names)...)
	}
	return spans
}

// R3: lists that are empty may be nil or not.
func TestEmptyLists(t *testing.T) {
	none := []api.Entry{}
	for _, e := range []api.Entries{{}, {Imports: none, Own: none, Others: none, Stars: none}} {
		if f := Resolve([]api.Entries{e}, 0, "x"); f != (api.Found{}) || len(Names([]api.Entries{e}, 0)) > 0 {
			t.Errorf("%v: %v", e, f)
		}
	}
	if f := Resolve([]api.Entries{}, 0, "x"); f != (api.Found{}) || len(Names([]api.Entries{}, 0)) > 0 {
		t.Error(f)
	}
}

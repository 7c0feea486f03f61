package module

import (
	"cmp"
	"slices"
	"strings"
	"testing"
	"unsafe"

	"gusset/api"
)

// A span is a piece of memory, of one that has it.
type span struct {
	begin, end uintptr
	of         int
}

func textSpan(s string, of int) []span {
	if s == "" {
		return nil
	}
	b := uintptr(unsafe.Pointer(unsafe.StringData(s)))
	return []span{{b, b + uintptr(len(s)), of}}
}

func listSpan[T any](l []T, of int) []span {
	if cap(l) == 0 {
		return nil
	}
	b := uintptr(unsafe.Pointer(unsafe.SliceData(l)))
	return []span{{b, b + uintptr(cap(l))*unsafe.Sizeof(l[:1][0]), of}}
}

// spans are all pieces of memory that a tree has, the spare room of its lists too.
func spans(n api.Node, of int) []span {
	l := append(textSpan(n.Text, of), listSpan(n.Kids, of)...)
	for _, k := range n.Kids {
		l = append(l, spans(k, of)...)
	}
	return l
}

// apart asks that no two pieces of memory are shared, but those of what was handed in (3).
func apart(t *testing.T, what string, all []span) {
	t.Helper()
	slices.SortFunc(all, func(a, b span) int { return cmp.Compare(a.begin, b.begin) })
	for i := 1; i < len(all); i++ {
		if a, b := all[i-1], all[i]; a.end > b.begin && (a.of < 3 || b.of < 3) {
			t.Errorf("%s shares memory", what)
			return
		}
	}
}

// given are the tokens with texts of their own, and with room behind them in which others stand.
func given(l []api.Token) []api.Token {
	room := make([]api.Token, 0, len(l)+3)
	for _, t := range l {
		t.Text = strings.Clone(t.Text)
		room = append(room, t)
	}
	return append(room, api.Token{Kind: api.TokenSign, Text: "+"}, api.Token{Kind: api.TokenName, Text: "y"}, api.Token{Kind: 9})[:len(l)]
}

func remembered() []string {
	l := []string{
		"class C { a = 1; m() { } b: T = 2; n(a, b, c) { a; b; c; } constructor(a, b) { a; } c = 3; o() { } }", "import d, { a, b, c as d, e as e, if as f } from './x';", "export { a, b as b, c as d, e as if };", "export default class C { a = 1; m() { } }",
		"class C { a = 1; a = 2; }", "import { a, b, if } from 'x';", "export { a } from '';", "export { a, if };", "type T = (a | b) | (c | d);", "type T = 1;",
	}
	for _, s := range samples() {
		l = append(l, s.source)
	}
	return l
}

// R4: the tokens stay as they were, what lies behind them too; and what is answered shares no memory, with them, with another answer, or within itself.
func TestMemory(t *testing.T) {
	for _, s := range remembered() {
		in := given(tokens(t, s))
		before := given(in)
		one, _, _ := Item(in, 0)
		two, _, _ := Item(in, 0)
		if !slices.Equal(in[:cap(in)], before[:cap(before)]) {
			t.Errorf("Item(%s) changed the tokens", s)
		}
		all := append(append(spans(one, 1), spans(two, 2)...), listSpan(in, 3)...)
		for _, x := range in {
			all = append(all, textSpan(x.Text, 3)...)
		}
		apart(t, s, all)
	}
}

// R4: so of sources.
func TestMemoryOfSources(t *testing.T) {
	for _, s := range append(remembered(), "namespace n { a = b; c = d; if = e; } let n = 1;") {
		for _, call := range []func(string) (api.Node, int, api.Errno){Module, Script} {
			in := strings.Clone(s + s)
			one, _, _ := call(in)
			two, _, _ := call(in)
			apart(t, s, slices.Concat(spans(one, 1), spans(two, 2), textSpan(in, 3)))
		}
	}
}

// R5, R4: what is done to an answer does not show in a later one.
func TestAgain(t *testing.T) {
	for _, s := range samples() {
		l := tokens(t, s.source)
		n, _, _ := Item(l, 0)
		spoil(&n)
		holds(t, l, 0, s.tree, len(l), api.OK)
		n, _, _ = Module(s.source)
		spoil(&n)
		reads(t, false, s.source, s.tree, 0, api.OK)
	}
}

// spoil changes all of a tree, the spare room of its lists too.
func spoil(n *api.Node) {
	for i := range n.Kids {
		spoil(&n.Kids[i])
	}
	kids := n.Kids[:cap(n.Kids)]
	for i := range kids {
		kids[i] = api.Node{Kind: -1, Text: "spoilt", N: -1}
	}
	*n = api.Node{Kind: -2}
}

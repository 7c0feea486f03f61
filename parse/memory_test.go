package parse

import (
	"cmp"
	"slices"
	"strings"
	"testing"
	"unsafe"

	"gusset/api"
)

// A span is a piece of memory, of one that has it.
type span struct {
	begin, end uintptr
	of         int
}

func textSpan(s string, of int) []span {
	if s == "" {
		return nil
	}
	b := uintptr(unsafe.Pointer(unsafe.StringData(s)))
	return []span{{b, b + uintptr(len(s)), of}}
}

func listSpan[T any](l []T, of int) []span {
	if cap(l) == 0 {
		return nil
	}
	b := uintptr(unsafe.Pointer(unsafe.SliceData(l)))
	return []span{{b, b + uintptr(cap(l))*unsafe.Sizeof(l[:1][0]), of}}
}

// spans are all pieces of memory that a tree has, the spare room of its lists too.
func spans(n api.Node, of int) []span {
	l := append(textSpan(n.Text, of), listSpan(n.Kids, of)...)
	for _, k := range n.Kids {
		l = append(l, spans(k, of)...)
	}
	return l
}

// given are the tokens with texts of their own, and with room behind them in which others stand.
func given(l []api.Token) []api.Token {
	room := make([]api.Token, 0, len(l)+3)
	for _, t := range l {
		t.Text = strings.Clone(t.Text)
		room = append(room, t)
	}
	return append(room, api.Token{Kind: api.TokenSign, Text: "+"}, api.Token{Kind: api.TokenName, Text: "y"}, api.Token{Kind: 9})[:len(l)]
}

// R4: the tokens stay as they were, what lies behind them too; and what is answered shares no memory, with them, with another answer, or within itself.
func TestMemory(t *testing.T) {
	l := samples()
	for _, s := range []sample{
		{types, "(a | b) | (c | d | (e | f)) | g", ""}, {exprs, "{ abc, def, if: abc }", ""}, {exprs, "(a, b) => (c, d) => a + b", ""}, {exprs, "f(a, b, c, d, e, ).g(h, i)", ""},
		{stmts, "{ a; b; c; { d; e; } if (f) { } else if (g) { } }", ""}, {exprs, "(a, a) => 1", ""}, {stmts, "{ a; b; c }", ""}, {types, "{ a: T; a: T; }", ""},
	} {
		l = append(l, s)
	}
	for _, s := range l {
		in := given(tokens(t, s.source))
		before := given(in)
		one, _, _ := s.face.call(in, 0)
		two, _, _ := s.face.call(in, 0)
		if !slices.Equal(in[:cap(in)], before[:cap(before)]) {
			t.Errorf("%s(%s) changed the tokens", s.face.name, s.source)
		}
		all := append(append(spans(one, 1), spans(two, 2)...), listSpan(in, 3)...)
		for _, x := range in {
			all = append(all, textSpan(x.Text, 3)...)
		}
		slices.SortFunc(all, func(a, b span) int { return cmp.Compare(a.begin, b.begin) })
		for i := 1; i < len(all); i++ {
			if a, b := all[i-1], all[i]; a.end > b.begin && (a.of < 3 || b.of < 3) {
				t.Errorf("%s(%s) shares memory", s.face.name, s.source)
				break
			}
		}
	}
}

// R5, R4: what is done to an answer does not show in a later one.
func TestAgain(t *testing.T) {
	for _, s := range samples() {
		l := tokens(t, s.source)
		n, _, _ := s.face.call(l, 0)
		spoil(&n)
		holds(t, s.face, l, 0, s.tree, len(l), api.OK)
	}
}

// spoil changes all of a tree, the spare room of its lists too.
func spoil(n *api.Node) {
	for i := range n.Kids {
		spoil(&n.Kids[i])
	}
	kids := n.Kids[:cap(n.Kids)]
	for i := range kids {
		kids[i] = api.Node{Kind: -1, Text: "spoilt", N: -1}
	}
	*n = api.Node{Kind: -2}
}

package show

import (
	"slices"
	"strings"
	"testing"
	"unsafe"

	"gusset/api"
	"gusset/tree"
)

// roomy is a copy of a tree whose lists have room behind them in which others stand.
func roomy(n api.Node) api.Node {
	c := api.Node{Kind: n.Kind, Text: strings.Clone(n.Text), N: n.N, Kids: make([]api.Node, 0, len(n.Kids)+2)}
	for _, k := range n.Kids {
		c.Kids = append(c.Kids, roomy(k))
	}
	c.Kids = append(c.Kids, api.Node{Kind: api.Expr, Text: "behind", N: 7}, api.Node{Kind: 99})[:len(n.Kids)]
	return c
}

// whole is a tree told with what lies behind its lists' ends.
func whole(n api.Node) string {
	var b strings.Builder
	b.WriteString(told(api.Node{Kind: n.Kind, Text: n.Text, N: n.N}))
	for _, k := range n.Kids[:cap(n.Kids)] {
		b.WriteString("[" + whole(k) + "]")
	}
	return b.String()
}

// shares tells whether two texts have any memory in common.
func shares(a, b string) bool {
	if a == "" || b == "" {
		return false
	}
	x, y := uintptr(unsafe.Pointer(unsafe.StringData(a))), uintptr(unsafe.Pointer(unsafe.StringData(b)))
	return x < y+uintptr(len(b)) && y < x+uintptr(len(a))
}

// R4, R5: the tree stays as it was, what lies behind its lists too; what is answered hangs on it alone, and shares no memory with it or with another answer.
func TestMemory(t *testing.T) {
	l := []api.Node{node(api.Name, "a"), node(api.Name, "abc"), node(api.Text, "abc"), node(api.TypeName, "T"), {Kind: api.Num, N: 5}, {Kind: api.This}, {Kind: api.Module}}
	for _, form := range forms() {
		for seed := range int64(300) {
			l = append(l, made(form, seed))
		}
	}
	for _, n := range l {
		in := roomy(n)
		before := whole(in)
		one, two := Show(in), Show(in)
		if whole(in) != before {
			t.Fatalf("what was handed in is changed: %s", told(in))
		}
		if one != two || one != Show(n) {
			t.Fatalf("%q, then %q", one, two)
		}
		if shares(one, two) {
			t.Fatalf("two answers share memory: %q", one)
		}
		for _, text := range texts(in) {
			if shares(one, text) {
				t.Fatalf("%q shares memory with what was handed in", one)
			}
		}
	}
}

// texts are those of a tree, in its own memory.
func texts(n api.Node) []string {
	l := []string{n.Text}
	for _, k := range n.Kids {
		l = append(l, texts(k)...)
	}
	return l
}

// R1: a tree in which one is otherwise is shown just if it has a form; no call panics.
func TestOtherwise(t *testing.T) {
	others := []api.Node{{}, {Kind: api.None}, {Kind: api.Name, Text: "a"}, {Kind: api.Name, Text: "if"}, {Kind: api.Block}, {Kind: api.Params}, {Kind: api.TypeName, Text: "a"}, {Kind: -1, Text: "\xff", N: -1}, {Kind: api.Func, Kids: []api.Node{{}}}, {Kind: api.Object}}
	for _, form := range forms() {
		for seed := range int64(150) {
			n := made(form, seed)
			for at := range min(tree.Size(n), 60) {
				for _, other := range others {
					m, _ := tree.Replace(n, at, other)
					s := Show(m)
					if got := tree.Form(m); (s == "") != (got == api.FormNone) && len(m.Kids) > 0 {
						t.Fatalf("%s has the form %d and is shown as %q", told(m), got, s)
					}
					if tree.Form(m) != api.FormNone && !returns(t, m) {
						return
					}
				}
			}
		}
	}
}

// R1, the bound: trees far deeper than any that is read are shown, too.
func TestVeryDeep(t *testing.T) {
	const deep = 60000
	a, none, params := node(api.Name, "a"), node(api.None, ""), node(api.Params, "")
	for _, x := range []struct {
		ahead, inner, behind string
		least                api.Node
		step                 func(api.Node) api.Node
	}{
		{"-", "a", "", a, func(n api.Node) api.Node { return node(api.Unary, "-", n) }},
		{"", "a", ".b", a, func(n api.Node) api.Node { return node(api.Member, "b", n) }},
		{"", "a", "[a]", a, func(n api.Node) api.Node { return node(api.Index, "", n, a) }},
		{"a[", "a", "]", a, func(n api.Node) api.Node { return node(api.Index, "", a, n) }},
		{"", "a", "()", a, func(n api.Node) api.Node { return node(api.Call, "", n) }},
		{"[", "a", "]", a, func(n api.Node) api.Node { return node(api.Array, "", n) }},
		{"", "a", " + a", a, func(n api.Node) api.Node { return node(api.Binary, "+", n, a) }},
		{"a = ", "a", "", a, func(n api.Node) api.Node { return node(api.Assign, "", a, n) }},
		{"a ? a : ", "a", "", a, func(n api.Node) api.Node { return node(api.Cond, "", a, a, n) }},
		{"", "T", "[]", node(api.TypeName, "T"), func(n api.Node) api.Node { return node(api.TypeArray, "", n) }},
		{"() => ", "T", "", node(api.TypeName, "T"), func(n api.Node) api.Node { return node(api.TypeFunc, "", params, n) }},
	} {
		n := x.least
		for range deep {
			n = x.step(n)
		}
		want := strings.Repeat(x.ahead, deep) + x.inner + strings.Repeat(x.behind, deep)
		if got := Show(n); got != want {
			t.Errorf("%s%s%s: %d bytes, %.50s .., want %d", x.ahead, x.inner, x.behind, len(got), got, len(want))
		}
		if form := tree.Form(n); form == api.FormExpr {
			if got := Show(node(api.Expr, "", n)); got != want+";" {
				t.Errorf("%s%s%s;: %d bytes, want %d", x.ahead, x.inner, x.behind, len(got), len(want)+1)
			}
		}
	}
	n := node(api.Func, "", params, none, node(api.Block, ""))
	for range 1500 {
		n = node(api.Func, "", params, none, node(api.Block, "", node(api.Return, "", n)))
	}
	got := strings.Split(Show(n), "\n")
	if len(got) != 3001 || got[1500] != strings.Repeat(" ", 3000)+"return function () {};" || got[3000] != "}" || !slices.Contains(got, strings.Repeat(" ", 1500)+"return function () {") {
		t.Errorf("%d lines", len(got))
	}
}

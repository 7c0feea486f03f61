package scope

import (
	"slices"
	"strings"
	"testing"
	"unsafe"

	"gusset/api"
	"gusset/tree"
)

// roomy is a copy of a tree whose lists have room behind them in which others stand.
func roomy(n api.Node) api.Node {
	c := api.Node{Kind: n.Kind, Text: strings.Clone(n.Text), N: n.N, Kids: make([]api.Node, 0, len(n.Kids)+2)}
	for _, k := range n.Kids {
		c.Kids = append(c.Kids, roomy(k))
	}
	c.Kids = append(c.Kids, node(api.Let, "behind"), api.Node{Kind: 99, N: 7})[:len(n.Kids)]
	return c
}

// behind is a tree with what lies behind its lists' ends.
func behind(n api.Node) api.Node {
	c := api.Node{Kind: n.Kind, Text: strings.Clone(n.Text), N: n.N}
	for _, k := range n.Kids[:cap(n.Kids)] {
		c.Kids = append(c.Kids, behind(k))
	}
	return c
}

// A span is where a piece of memory begins and ends.
type span struct{ from, to uintptr }

func textSpan(s string) span {
	from := uintptr(unsafe.Pointer(unsafe.StringData(s)))
	return span{from, from + uintptr(len(s))}
}

func listSpan[T any](l []T) span {
	from := uintptr(unsafe.Pointer(unsafe.SliceData(l)))
	var one T
	return span{from, from + uintptr(cap(l))*unsafe.Sizeof(one)}
}

func treeSpans(n api.Node) []span {
	l := []span{textSpan(n.Text), listSpan(n.Kids)}
	for _, k := range n.Kids {
		l = append(l, treeSpans(k)...)
	}
	return l
}

func scopeSpans(s api.Scope) []span {
	l := []span{listSpan(s.Tops), listSpan(s.Uses)}
	for _, top := range s.Tops {
		l = append(l, textSpan(top.Name))
	}
	for _, use := range s.Uses {
		l = append(l, textSpan(use.Name))
	}
	return l
}

// shared tells whether any two of some pieces have memory in common.
func shared(l []span) bool {
	l = slices.DeleteFunc(l, func(s span) bool { return s.from >= s.to })
	slices.SortFunc(l, func(a, b span) int {
		if a.from < b.from {
			return -1
		}
		return 1
	})
	for i := 1; i < len(l); i++ {
		if l[i].from < l[i-1].to {
			return true
		}
	}
	return false
}

// R4, R5: the tree stays as it was, what lies behind its lists too; what is answered hangs on it alone, and shares no memory with it or with another answer.
func TestMemory(t *testing.T) {
	for seed := range int64(600) {
		n, want := sound(seed)
		in := roomy(n)
		before := behind(in)
		one, _, _ := Resolve(in)
		two, _, _ := Resolve(in)
		if !tree.Same(behind(in), before) {
			t.Fatalf("what was handed in is changed: %v", n)
		}
		if told(one, 0, 0) != told(want, 0, 0) || told(two, 0, 0) != told(want, 0, 0) {
			t.Fatalf("%v, then %v, then %v", want, one, two)
		}
		if shared(slices.Concat(treeSpans(in), scopeSpans(one), scopeSpans(two))) {
			t.Fatalf("memory is shared: %v", n)
		}
		overwrite(in)
		if told(one, 0, 0) != told(want, 0, 0) {
			t.Fatalf("%v hangs on what was handed in", one)
		}
	}
}

func overwrite(n api.Node) {
	for i, k := range n.Kids {
		overwrite(k)
		n.Kids[i] = api.Node{Kind: api.Null}
	}
}

// R4: the builtins are a new list each time.
func TestBuiltinsMemory(t *testing.T) {
	one, two := Builtins(), Builtins()
	l := []span{listSpan(one), listSpan(two)}
	for _, name := range slices.Concat(one, two) {
		l = append(l, textSpan(name))
	}
	if shared(l) {
		t.Error("memory is shared")
	}
	one[0] = "x"
	if Builtins()[0] != "parse" || two[0] != "parse" {
		t.Error("what is done to a list shows in another one")
	}
}

// R1: a tree in which one is otherwise is told as the chapter says, and ErrTree just if it is no whole one; no call panics.
func TestOtherwise(t *testing.T) {
	others := []api.Node{{}, {Kind: api.None}, {Kind: api.Name, Text: "a"}, {Kind: api.Name, Text: "if"}, {Kind: api.Block}, {Kind: api.Params}, {Kind: api.TypeName, Text: "T"}, {Kind: -1, Text: "\xff", N: -1}, {Kind: api.Func, Kids: []api.Node{{}}}, {Kind: api.This}, {Kind: api.Module}}
	for seed := range int64(120) {
		n := made(seed)
		for at := range min(tree.Size(n), 50) {
			for _, other := range others {
				m, _ := tree.Replace(n, at, other)
				if form := tree.Form(m); form == api.FormModule || form == api.FormScript {
					held(t, m)
				} else if s, at, err := Resolve(m); err != api.ErrTree || at != 0 || len(s.Tops)+len(s.Uses) > 0 {
					t.Fatalf("%v: %s", m, told(s, at, err))
				}
			}
		}
	}
}

// R1, the bound: trees far deeper than any that is read are resolved, too.
func TestVeryDeep(t *testing.T) {
	const deep = 20000
	none, a := node(api.None, ""), node(api.Name, "a")
	inner := node(api.Expr, "", node(api.Assign, "", a, a))
	for range deep {
		inner = node(api.Block, "", inner, node(api.Expr, "", node(api.Name, "a")))
	}
	s, at, err := Resolve(node(api.Module, "", node(api.Let, "a", none, node(api.Null, "")), inner))
	if err != api.OK || at != 0 || len(s.Uses) != deep+2 || s.Uses[deep+1].Decl != 1 {
		t.Errorf("error %d at %d, %d uses", err, at, len(s.Uses))
	}
	value := node(api.This, "")
	for range deep {
		value = node(api.Func, "", node(api.Params, "", node(api.Param, "a", none)), none, node(api.Block, "", node(api.Return, "", value)))
	}
	s, at, err = Resolve(node(api.Module, "", node(api.Class, "C", node(api.Field, "x", none, value))))
	if err != api.OK || at != 0 || len(s.Uses) != 0 {
		t.Errorf("error %d at %d, %d uses", err, at, len(s.Uses))
	}
	s, at, err = Resolve(node(api.Module, "", node(api.Expr, "", value)))
	if err != api.ErrThis || at != 2+7*deep || len(s.Uses) != 0 {
		t.Errorf("error %d at %d, %d uses", err, at, len(s.Uses))
	}
}

package pure

import (
	"math/rand"
	"testing"

	"gusset/api"
	"gusset/tree"
)

// A grower makes trees by chance, about half of which are pure.
type grower struct {
	*rand.Rand
	bad int // in how many of 100 places something stands that is not pure
}

func (g grower) exprs(most, deep int) []api.Node {
	var l []api.Node
	for range g.Intn(most + 1) {
		l = append(l, g.expr(deep))
	}
	return l
}

func (g grower) expr(deep int) api.Node {
	if g.Intn(100) < g.bad {
		return g.badExpr(deep - 1)
	}
	kinds := []int{api.Num, api.Text, api.Bool, api.Null, api.Undef, api.Func, api.Array, api.Object, api.Unary, api.Binary, api.Cond}
	if deep <= 0 {
		kinds = kinds[:5]
	}
	n := api.Node{Kind: kinds[g.Intn(len(kinds))]}
	switch n.Kind {
	case api.Num, api.Bool:
		n.N = g.Intn(2)
	case api.Text:
		n.Text = "t"
	case api.Func:
		n.Kids = g.function(deep - 1)
	case api.Array:
		n.Kids = g.exprs(4, deep-1)
	case api.Object:
		for _, e := range g.exprs(3, deep-1) {
			n.Kids = append(n.Kids, api.Node{Kind: api.Prop, Text: []string{"a", "if", "$"}[g.Intn(3)], Kids: []api.Node{e}})
		}
	case api.Unary:
		n.Text, n.Kids = []string{"!", "typeof"}[g.Intn(2)], []api.Node{g.expr(deep - 1)}
	case api.Binary:
		n.Text, n.Kids = []string{"&&", "||"}[g.Intn(2)], []api.Node{g.expr(deep - 1), g.expr(deep - 1)}
	case api.Cond:
		n.Kids = []api.Node{g.expr(deep - 1), g.expr(deep - 1), g.expr(deep - 1)}
	}
	return n
}

// badExpr is an expression that is not pure, though what stands in it may be.
func (g grower) badExpr(deep int) api.Node {
	kinds := []int{api.Name, api.This, api.New, api.Unary, api.Binary, api.Assign, api.Call, api.Member, api.Index}
	n := api.Node{Kind: kinds[g.Intn(len(kinds))]}
	one, two := g.expr(deep), g.expr(deep)
	switch n.Kind {
	case api.Name:
		n.Text = "x"
	case api.New:
		n.Text, n.Kids = "C", g.exprs(2, deep)
	case api.Unary:
		n.Text, n.Kids = "-", []api.Node{one}
	case api.Binary:
		operators := []string{"+", "-", "*", "/", "%", "===", "!==", "<", "<=", ">", ">="}
		n.Text, n.Kids = operators[g.Intn(len(operators))], []api.Node{one, two}
	case api.Assign:
		n.Kids = []api.Node{{Kind: api.Member, Text: "a", Kids: []api.Node{one}}, two}
	case api.Call, api.Index:
		n.Kids = []api.Node{one, two}
	case api.Member:
		n.Text, n.Kids = "a", []api.Node{one}
	}
	return n
}

// function is what a function has; its body is full of what is not pure.
func (g grower) function(deep int) []api.Node {
	body := api.Node{Kind: api.Block}
	for range g.Intn(3) {
		body.Kids = append(body.Kids, g.stmt(deep))
	}
	return []api.Node{{Kind: api.Params}, {Kind: api.None}, body}
}

func (g grower) let(deep int) api.Node {
	types := []api.Node{{Kind: api.None}, {Kind: api.TypeName, Text: "T"}}
	return api.Node{Kind: api.Let, Text: "a", N: g.Intn(2), Kids: []api.Node{types[g.Intn(2)], g.expr(deep)}}
}

func (g grower) stmt(deep int) api.Node {
	kinds := []int{api.Let, api.Function, api.Expr, api.If, api.While, api.Return, api.Throw, api.Block}
	kind := kinds[g.Intn(len(kinds))]
	if g.Intn(100) >= g.bad {
		kind = kinds[g.Intn(3)]
	}
	block := api.Node{Kind: api.Block}
	switch kind {
	case api.Let:
		return g.let(deep)
	case api.Function:
		return api.Node{Kind: kind, Text: "f", Kids: g.function(deep - 1)}
	case api.If:
		return api.Node{Kind: kind, Kids: []api.Node{g.expr(deep), block, block}}
	case api.While:
		return api.Node{Kind: kind, Kids: []api.Node{g.expr(deep), block}}
	case api.Block:
		return block
	}
	return api.Node{Kind: kind, Kids: []api.Node{g.expr(deep)}}
}

func (g grower) class(deep int) api.Node {
	return api.Node{Kind: api.Class, Text: "C", Kids: []api.Node{{Kind: api.Field, Text: "a", Kids: []api.Node{{Kind: api.None}, g.expr(deep)}}, {Kind: api.Method, Text: "m", Kids: g.function(deep)}}}
}

func (g grower) item(deep int) api.Node {
	alias := api.Node{Kind: api.Alias, Text: "T", Kids: []api.Node{{Kind: api.TypeName, Text: "U"}}}
	function := api.Node{Kind: api.Function, Text: "f", Kids: g.function(deep)}
	one := api.Node{Kind: api.ExportOne, Text: "a", Kids: []api.Node{{Kind: api.None}}}
	switch g.Intn(8) {
	case 0:
		return g.class(deep)
	case 1:
		return alias
	case 2:
		return api.Node{Kind: api.Import, Text: "./x"}
	case 3:
		return api.Node{Kind: api.ExportFrom, Text: "./x", Kids: []api.Node{one}}
	case 4:
		held := []api.Node{g.let(deep), g.let(deep), g.let(deep), function, g.class(deep), alias}
		return api.Node{Kind: api.Export, Kids: []api.Node{held[g.Intn(len(held))]}}
	case 5:
		held := []api.Node{g.expr(deep), g.expr(deep), g.expr(deep), function, g.class(deep)}
		return api.Node{Kind: api.Default, Kids: []api.Node{held[g.Intn(len(held))]}}
	}
	return g.stmt(deep)
}

// spoils tells whether a tree may not stand in a pure one, whatever is in it. (What it is put together of, as Props, may.)
func spoils(n api.Node) bool {
	switch n.Kind {
	case api.Name, api.This, api.Assign, api.Call, api.New, api.Member, api.Index, api.If, api.While, api.Return, api.Throw, api.Block:
		return true
	case api.Unary:
		return n.Text == "-"
	case api.Binary:
		return n.Text != "&&" && n.Text != "||"
	}
	return false
}

// pureByWords is 19.1 the other way round: nothing that spoils it stands outside of functions, classes, types, imports and exports of names.
func pureByWords(n api.Node) bool {
	left := []api.Node{n}
	for len(left) > 0 {
		next := left[0]
		left = left[1:]
		if spoils(next) {
			return false
		}
		switch next.Kind {
		case api.Func, api.Function, api.Class, api.Alias, api.Import, api.ExportFrom:
		default:
			left = append(left, next.Kids...)
		}
	}
	return true
}

// 19.1: trees that are made by chance, all that stands within them too.
func TestMadeTrees(t *testing.T) {
	var met [2][2]int
	kinds := map[int][2]int{}
	number := func(is bool) int {
		if is {
			return 1
		}
		return 0
	}
	for seed := range int64(20000) {
		g := grower{rand.New(rand.NewSource(seed)), []int{0, 3, 10, 30}[seed%4]}
		whole := []api.Node{g.expr(5), g.item(4)}[seed/4%2]
		for _, n := range tree.All(whole) {
			form := tree.Form(n)
			isExpr, isItem := form == api.FormExpr, form == api.FormItem || form == api.FormStmt
			want := pureByWords(n)
			if got := Expr(n); got != (isExpr && want) {
				t.Fatalf("%v, of the form %d: %t", n, form, got)
			}
			if got := Item(n); got != (isItem && want) {
				t.Fatalf("%v, of the form %d: %t", n, form, got)
			}
			if isExpr || isItem {
				met[number(isItem)][number(want)]++
				k := kinds[n.Kind]
				k[number(want)]++
				kinds[n.Kind] = k
			}
		}
	}
	for _, both := range met {
		if both[0] < 1000 || both[1] < 1000 {
			t.Error(met)
		}
	}
	for _, kind := range []int{api.Array, api.Object, api.Cond, api.Unary, api.Binary, api.Let, api.Expr, api.Default, api.Export} {
		if kinds[kind][0] < 100 || kinds[kind][1] < 100 {
			t.Error(kind, kinds[kind])
		}
	}
}

// 19.1: a tree in which anything is otherwise than its kind asks is not pure, wherever that stands; in functions, too.
func TestBrokenTrees(t *testing.T) {
	broken := 0
	for seed := range int64(5000) {
		g := grower{rand.New(rand.NewSource(seed)), 0}
		whole := []api.Node{g.expr(4), g.item(3)}[seed%2]
		at := g.Intn(tree.Size(whole))
		n, _ := tree.At(whole, at)
		switch g.Intn(4) {
		case 0:
			n.N = -1
		case 1:
			n.Kids = append(n.Kids, api.Node{Kind: api.None})
		case 2:
			n.Kind += 100
		case 3:
			n.Text = "\xff"
		}
		n, _ = tree.Replace(whole, at, n)
		if Expr(n) || Item(n) {
			t.Fatalf("%v is pure", n)
		}
		if tree.Form(n) == api.FormNone {
			broken++
		}
	}
	if broken != 5000 {
		t.Error(broken)
	}
}

// comesTo are the trees that the evaluation of a pure expression comes to, whatever the conditions in it are.
func comesTo(n api.Node) []api.Node {
	l := []api.Node{n}
	if n.Kind == api.Func {
		return l
	}
	for _, k := range n.Kids {
		l = append(l, comesTo(k)...)
	}
	return l
}

// 19.4: the evaluation of a pure expression makes no step, prints nothing, and ends: it comes to no Call and no New; and what may end a run, a name that is dead or an operator on a value that it does not take, is not there.
func TestPureDoesNothing(t *testing.T) {
	checked := 0
	for seed := range int64(5000) {
		g := grower{rand.New(rand.NewSource(seed)), []int{0, 2, 5}[seed%3]}
		whole := g.expr(5)
		if !Expr(whole) {
			continue
		}
		checked++
		for _, n := range comesTo(whole) {
			switch n.Kind {
			case api.Num, api.Text, api.Bool, api.Null, api.Undef, api.Func, api.Array, api.Object, api.Prop, api.Cond:
			case api.Unary:
				if n.Text == "-" {
					t.Fatalf("%v is pure", whole)
				}
			case api.Binary:
				if n.Text != "&&" && n.Text != "||" {
					t.Fatalf("%v is pure", whole)
				}
			default:
				t.Fatalf("%v is pure", whole)
			}
		}
	}
	if checked < 2000 {
		t.Error(checked)
	}
}

package show

import (
	"math/rand"
	"slices"
	"strings"
	"testing"

	"gusset/api"
	"gusset/lex"
	"gusset/module"
	"gusset/tree"
)

func forms() []int {
	return []int{api.FormExpr, api.FormType, api.FormStmt, api.FormItem, api.FormModule, api.FormScript}
}

// 8.2: trees of each form are read as they were, and no two of one form have one text.
func TestMade(t *testing.T) {
	for _, form := range forms() {
		texts := map[string]api.Node{}
		for seed := range int64(4000) {
			n := made(form, seed)
			if tree.Form(n) != form {
				t.Fatalf("what is made has the form %d, not %d: %s", tree.Form(n), form, told(n))
			}
			if !returns(t, n) {
				return
			}
			s := Show(n)
			if m, known := texts[s]; known && !tree.Same(n, m) {
				t.Fatalf("%s\nis the text of %s and of %s", s, told(n), told(m))
			}
			texts[s] = n
		}
	}
}

// all are the trees that those texts tell.
func all(t *testing.T, l ...string) []api.Node {
	t.Helper()
	var out []api.Node
	for _, s := range l {
		out = append(out, grown(t, s))
	}
	return out
}

// within are all trees that come of putting each of a list into each place @ of each pattern.
func within(t *testing.T, patterns []string, l []api.Node) []api.Node {
	t.Helper()
	var out []api.Node
	for _, pattern := range patterns {
		holes := strings.Count(pattern, "@")
		chosen := make([]api.Node, holes)
		n := grown(t, strings.ReplaceAll(pattern, "@", "hole"))
		var fill func(at int)
		fill = func(at int) {
			if at == holes {
				out = append(out, filled(n, slices.Clone(chosen)))
				return
			}
			for _, x := range l {
				chosen[at] = x
				fill(at + 1)
			}
		}
		fill(0)
	}
	return out
}

// filled is a tree with those in place of its names hole, in their order.
func filled(n api.Node, l []api.Node) api.Node {
	var put func(n api.Node) api.Node
	put = func(n api.Node) api.Node {
		if n.Kind == api.Name && n.Text == "hole" {
			first := l[0]
			l = l[1:]
			return first
		}
		c := n
		c.Kids = nil
		for _, k := range n.Kids {
			c.Kids = append(c.Kids, put(k))
		}
		return c
	}
	return put(n)
}

// apart asks that all of them are read as they were, and that no two have one text.
func apart(t *testing.T, l []api.Node) {
	t.Helper()
	texts := map[string]api.Node{}
	for _, n := range l {
		if !returns(t, n) {
			return
		}
		s := Show(n)
		if m, known := texts[s]; known && !tree.Same(m, n) {
			t.Fatalf("%s\nis the text of %s and of %s", s, told(n), told(m))
		}
		texts[s] = n
	}
}

// 8.2: all small trees, each kind in each place of each other one, are read as they were, and no two of one form have one text.
func TestSmall(t *testing.T) {
	some := all(t, "a", "1", "(Object)", "(Func (Params) _ (Block))")
	patterns := []string{"(Array)", "(Array @)", "(Array @ @)", "(Object (Prop a @))", "(Object (Prop a @) (Prop a @))", "(Unary - @)", "(Unary ! @)", "(Unary typeof @)", "(Cond @ @ @)", "(Assign a @)", "(Assign (Member a @) @)", "(Assign (Index @ @) @)", "(Call @)", "(Call @ @)", "(New a)", "(New a @)", "(Member a @)", "(Index @ @)", "(Func (Params) _ (Block (Expr @)))", "(Func (Params) _ (Block (Return @)))"}
	for _, sign := range []string{"+", "-", "*", "/", "===", "<", "&&", "||"} {
		patterns = append(patterns, "(Binary "+sign+" @ @)")
	}
	expressions := append(within(t, patterns, some), some...)
	apart(t, expressions)
	single := []string{"(Array a @)", "(Object (Prop a @))", "(Unary - @)", "(Unary typeof @)", "(Binary + @ a)", "(Binary + a @)", "(Binary * a @)", "(Binary || @ a)", "(Binary === @ a)", "(Binary < a @)", "(Binary && @ a)", "(Cond @ a a)", "(Cond a @ a)", "(Cond a a @)", "(Assign a @)", "(Call @)", "(Call a @)", "(Member a @)", "(Index @ a)", "(Index a @)", "(New a @)", "(Func (Params) _ (Block (Expr @)))"}
	nested := within(t, single, expressions)
	apart(t, append(nested, within(t, single, within(t, single, within(t, single, all(t, "a", "(Object)", "(Assign a a)"))))...))
	stmts := within(t, []string{"(Expr @)", "(Let a _ @)", "(Let a #1 :a @)", "(Return @)", "(Return _)", "(Throw @)", "(If @ (Block) _)", "(If @ (Block) (Block))", "(While @ (Block))", "(Function a (Params) _ (Block (Expr @)))", "(Block (Expr @))", "(Block)"}, expressions)
	apart(t, stmts)
	apart(t, within(t, []string{"(Default @)", "(Export (Let a _ @))", "(Class a (Field a _ @))", "(Class a (Field a :a @))", "(Class a (Method a (Params) _ (Block (Expr @))))", "(Class a (Ctor (Params) (Block (Expr @))))"}, expressions))
	var modules []api.Node
	for _, x := range stmts[:600] {
		for _, y := range stmts[:60] {
			modules = append(modules, node(api.Module, "", y, x), node(api.Script, "", x, y))
		}
	}
	for i, n := range modules {
		if i%7 == 0 && !returns(t, n) {
			return
		}
	}
}

// 8.2: so of types.
func TestSmallTypes(t *testing.T) {
	none := api.Node{Kind: api.None}
	some := all(t, ":a", ":null", "(TypeObject)")
	types := func(l []api.Node) []api.Node {
		out := slices.Clone(l)
		for _, a := range l {
			out = append(out, node(api.TypeArray, "", a), node(api.TypeObject, "", node(api.TypeProp, "a", a)), node(api.TypeFunc, "", node(api.Params, ""), a))
			for _, b := range l {
				out = append(out, node(api.TypeFunc, "", node(api.Params, "", node(api.Param, "a", a)), b), node(api.TypeObject, "", node(api.TypeProp, "a", a), node(api.TypeProp, "b", b)))
				if a.Kind != api.TypeUnion && b.Kind != api.TypeUnion {
					out = append(out, node(api.TypeUnion, "", a, b))
				}
			}
		}
		return out
	}
	twice := types(types(some))
	apart(t, twice)
	var stmts, items []api.Node
	for _, x := range append(twice[:600], none) {
		block, one := node(api.Block, ""), node(api.Name, "a")
		stmts = append(stmts, node(api.Let, "a", x, one), node(api.Function, "a", node(api.Params, "", node(api.Param, "a", x), node(api.Param, "b", x)), x, block), node(api.Expr, "", node(api.Func, "", node(api.Params, ""), x, block)))
		items = append(items, node(api.Class, "a", node(api.Field, "a", x, one)), node(api.Class, "a", node(api.Method, "a", node(api.Params, ""), x, block)), node(api.Class, "a", node(api.Ctor, "", node(api.Params, "", node(api.Param, "a", x)), block)))
		if x.Kind != api.None {
			items = append(items, node(api.Alias, "a", x), node(api.Export, "", node(api.Alias, "a", x)))
		}
	}
	apart(t, stmts)
	apart(t, items)
}

// steps are the ways to put a tree, for which an @ stands, into one of its form.
func steps() map[int][]string {
	return map[int][]string{
		api.FormExpr: {
			"(Array a @)", "(Object (Prop a @))", "(Func (Params) _ (Block (Expr @)))", "(Func (Params) _ (Block (Return @)))", "(Func (Params) _ (Block (If a (Block) (Block (Throw @)))))", "(Unary - @)", "(Unary ! @)", "(Unary typeof @)", "(Binary + @ a)", "(Binary + a @)", "(Binary || a @)", "(Binary * @ a)", "(Binary % a @)", "(Binary === @ a)", "(Binary < a @)",
			"(Cond @ a a)", "(Cond a @ a)", "(Cond a a @)", "(Assign a @)", "(Assign (Member a @) a)", "(Assign (Index @ a) a)", "(Assign (Index a @) a)", "(Call @)", "(Call a @)", "(New a @)", "(Member a @)", "(Index @ a)", "(Index a @)", "(Unary - (Assign a @))", "(Binary * a (Cond a a @))", "(Func (Params) _ (Block (While @ (Block))))",
		},
		api.FormType: {"(TypeArray @)", "(TypeUnion :a (TypeArray @))", "(TypeObject (TypeProp a @))", "(TypeFunc (Params) @)", "(TypeFunc (Params (Param a @)) :a)", "(TypeUnion (TypeFunc (Params) @) :a)", "(TypeUnion :a (TypeFunc (Params (Param a @)) :a))"},
		api.FormStmt: {"(Block @)", "(If a (Block @) _)", "(If a (Block) (Block @))", "(While a (Block @))", "(Function a (Params) _ (Block @))", "(Expr (Func (Params) _ (Block @)))", "(Let a _ (Func (Params) _ (Block @)))", "(Expr (Call (Func (Params) _ (Block @))))", "(Return (Unary - (Assign a (Func (Params) _ (Block @)))))"},
	}
}

// grew is a tree of just that Depth, made by those steps by turns, and filled up where the next one would be too deep.
func grew(t *testing.T, deep int, least api.Node, steps ...string) api.Node {
	t.Helper()
	n := least
	for i := 0; ; i++ {
		step := steps[i%len(steps)]
		next := within(t, []string{step}, []api.Node{n})[0]
		if tree.Depth(next) > deep {
			break
		}
		n = next
	}
	for tree.Depth(n) < deep {
		n = shallow(n)
	}
	return n
}

// shallow is a tree one deeper, of the same form.
func shallow(n api.Node) api.Node {
	switch tree.Form(n) {
	case api.FormExpr:
		return node(api.Unary, "-", n)
	case api.FormType:
		return node(api.TypeArray, "", n)
	}
	return node(api.Block, "", n)
}

// 8.2: up to the greatest Depth each kind of nesting, alone and by turns with each other one, is read as it was; what is deeper is not read as a module or a script.
func TestDeepest(t *testing.T) {
	least := map[int]api.Node{api.FormExpr: node(api.Name, "a"), api.FormType: node(api.TypeName, "a"), api.FormStmt: node(api.Return, "", api.Node{Kind: api.None})}
	for form, l := range steps() {
		for i, one := range l {
			for j, two := range l {
				if i > j && (i+j)%5 != 0 {
					continue
				}
				n := grew(t, api.MaxNest, least[form], one, two)
				if tree.Depth(n) != api.MaxNest || tree.Form(n) != form {
					t.Fatalf("%s, %s: Depth %d, form %d", one, two, tree.Depth(n), tree.Form(n))
				}
				if !returns(t, n) {
					t.Errorf("by %s and %s", one, two)
				}
				deepestWhole(t, form, least[form], one, two)
			}
		}
	}
}

// deepestWhole asks the same of modules and scripts, and of those that are one deeper.
func deepestWhole(t *testing.T, form int, least api.Node, steps ...string) {
	t.Helper()
	around, own := "(Expr @)", 2 // the Depth of what stands around, the module or script with it
	switch form {
	case api.FormType:
		around = "(Let a @ 1)"
	case api.FormStmt:
		around, own = "@", 1
	}
	for _, kind := range []int{api.Module, api.Script} {
		for _, deep := range []int{api.MaxNest, api.MaxNest + 1} {
			n := node(kind, "", within(t, []string{around}, []api.Node{grew(t, deep-own, least, steps...)})[0])
			if tree.Depth(n) != deep {
				t.Fatalf("%s: Depth %d, not %d", steps, tree.Depth(n), deep)
			}
			if deep == api.MaxNest {
				returns(t, n)
				continue
			}
			if _, err := again(Show(n), tree.Form(n)); err != api.ErrDeep {
				t.Errorf("%s, of Depth %d: %d", steps, deep, err)
			}
		}
	}
}

// 7.3, 8.2: what is read out of a source that is said in another way is shown, and read as it was.
func TestSources(t *testing.T) {
	for _, x := range [][2]string{
		{"", ""}, {" // nothing", ""}, {"a;;", "\x00"}, {"((a));", "a;\n"}, {"x=>1;", "\x00"}, {"let f=(a:T,b)=>({a,});", "let f = function (a: T, b) {\n  return { a: a };\n};\n"}, {"if(a){}else if(b){}else{c;}", "if (a) {} else {\n  if (b) {} else {\n    c;\n  }\n}\n"},
		{"f(1,);[a,];({a:1,});", "f(1);\n[a];\n({ a: 1 });\n"}, {"import{}from'm';", "import \"m\";\n"}, {"import{default as d,a as a}from'm';", "import d, { a } from \"m\";\n"}, {"export{a as a,};", "export { a };\n"}, {"import type{default as d}from'm';", "import type d from \"m\";\n"},
		{"class C{m(){}a=1;}", "class C {\n  a = 1;\n  m() {}\n}\n"}, {"type T=((a)|(b|c))[];", "type T = (a | b | c)[];\n"}, {"type T=((a:T)=>U);type=1;", "type T = (a: T) => U;\ntype = 1;\n"}, {"((a.b))=1;", "a.b = 1;\n"}, {"let a='\\u{41}\"';", "let a = \"A\\\"\";\n"},
	} {
		n, _, err := module.Module(x[0])
		if x[1] == "\x00" {
			if err == api.OK {
				t.Errorf("%s is a source", x[0])
			}
			continue
		}
		if got := Show(n); err != api.OK || got != x[1] {
			t.Errorf("%s is shown as\n%q, want\n%q (%d)", x[0], got, x[1], err)
		}
		returns(t, n)
	}
}

// 8.1: no pair of ( and ) in expressions and statements could be left out: what is read without it is another tree, or none. (Of types that is not so: a TypeFunc at a TypeUnion's end.)
func TestNoBracketsToSpare(t *testing.T) {
	for seed := range int64(3000) {
		m := maker{rand.New(rand.NewSource(seed)), false, true}
		n := m.expr(9)
		if seed%2 == 1 {
			n = m.stmt(9)
		}
		l, _, _ := lex.Lex(Show(n), true)
		for open := range l {
			if l[open].Text != "(" || l[open].Kind != api.TokenSign {
				continue
			}
			without := slices.Concat(l[:open], l[open+1:closing(l, open)], l[closing(l, open)+1:])
			if m, err := again(lex.Show(without), tree.Form(n)); err == api.OK && tree.Same(m, n) {
				t.Fatalf("%s\nis the same without its token %d", Show(n), open)
			}
		}
	}
}

// closing is the bracket that closes the one at a token.
func closing(l []api.Token, open int) int {
	deep := 0
	for i, x := range l[open:] {
		if x.Kind == api.TokenSign && x.Text == "(" {
			deep++
		}
		if x.Kind == api.TokenSign && x.Text == ")" {
			deep--
		}
		if deep == 0 {
			return open + i
		}
	}
	return len(l)
}

package scope

import (
	"fmt"
	"testing"

	"gusset/api"
	"gusset/tree"
)

// held tells whether Resolve answers of a tree what the chapter's words say, asked place by place.
func held(t *testing.T, n api.Node) (api.Scope, int, api.Errno) {
	t.Helper()
	if form := tree.Form(n); form != api.FormModule && form != api.FormScript {
		t.Fatalf("a tree of the form %d: %v", form, n)
	}
	s, at, err := Resolve(n)
	if got, want := told(s, at, err), told(expected(n)); got != want {
		t.Fatalf("%v:\ngot  %s\nwant %s", n, got, want)
	}
	return s, at, err
}

// 9.1: made trees, and what is left of them when their errors are mended one by one.
func TestMade(t *testing.T) {
	errors := map[api.Errno]int{}
	uses := map[int]int{}
	for seed := range int64(6000) {
		n := made(seed)
		for step := 0; ; step++ {
			s, at, err := held(t, n)
			errors[err]++
			for _, use := range s.Uses {
				uses[use.Kind]++
			}
			if err == api.OK || step == 300 {
				break
			}
			n = mended(n, at, step)
		}
	}
	for _, err := range []api.Errno{api.OK, api.ErrTwice, api.ErrName, api.ErrConst, api.ErrThis} {
		if errors[err] < 500 {
			t.Errorf("only %d trees with %d", errors[err], err)
		}
	}
	for _, kind := range []int{api.UseBuiltin, api.UseLocal, api.UseTop, api.UseImport} {
		if uses[kind] < 500 {
			t.Errorf("only %d uses of the kind %d", uses[kind], kind)
		}
	}
}

// sound is a made tree without errors.
func sound(seed int64) (api.Node, api.Scope) {
	n := made(seed)
	for step := 0; ; step++ {
		s, at, err := Resolve(n)
		if err == api.OK {
			return n, s
		}
		n = mended(n, at, step)
	}
}

// 9.2: each place that is a use is told once, by rising places, with the name that stands there, and by a declaration of that name.
func TestOnce(t *testing.T) {
	for seed := range int64(2000) {
		n, s := sound(seed)
		v := viewOf(n)
		last := 0
		for _, use := range s.Uses {
			if use.At <= last {
				t.Fatalf("%v: the place %d behind %d", n, use.At, last)
			}
			last = use.At
			if name, _ := v.used(use.At); name != use.Name {
				t.Fatalf("%v: %s at %d, where %s stands", n, use.Name, use.At, name)
			}
			if name, _ := v.declaration(use.Decl); use.Decl > 0 && name != use.Name {
				t.Fatalf("%v: %s at %d, declared as %s", n, use.Name, use.At, name)
			}
		}
		count := 0
		for at := range v.trees {
			if name, _ := v.used(at); name != "" {
				count++
			}
		}
		if count != len(s.Uses) {
			t.Fatalf("%v: %d uses of %d", n, len(s.Uses), count)
		}
	}
}

// renamed is a tree in which the trees at those places have another text.
func renamed(n api.Node, name string, places map[int]bool) api.Node {
	for at := range places {
		one, _ := tree.At(n, at)
		one.Text = name
		n, _ = tree.Replace(n, at, one)
	}
	return n
}

// 9.2: a local name with a new name, and its uses with it, changes no other use.
func TestApart(t *testing.T) {
	count := 0
	for seed := range int64(1500) {
		n, s := sound(seed)
		v := viewOf(n)
		for decl := range v.trees {
			if _, in := v.declaration(decl); in < 1 {
				continue
			}
			places := map[int]bool{decl: true}
			want := api.Scope{Tops: s.Tops}
			for _, use := range s.Uses {
				if use.Decl == decl {
					places[use.At] = true
					use.Name = "apart"
				}
				want.Uses = append(want.Uses, use)
			}
			again := renamed(n, "apart", places)
			if got, at, err := Resolve(again); told(got, at, err) != told(want, 0, api.OK) {
				t.Fatalf("%v, with the name at %d apart:\ngot  %s\nwant %s", n, decl, told(got, at, err), told(want, 0, api.OK))
			}
			count++
		}
	}
	if count < 1000 {
		t.Error("only", count, "local names")
	}
}

// 9.1: all blocks of up to three of a few statements, as an item, in a function of a parameter, and as the items themselves.
func TestSmall(t *testing.T) {
	one, none := api.Node{Kind: api.Num, N: 1}, node(api.None, "")
	a := node(api.Name, "a")
	few := []api.Node{
		node(api.Expr, "", a), node(api.Expr, "", node(api.Assign, "", a, one)), node(api.Let, "a", none, one), {Kind: api.Let, Text: "a", N: 1, Kids: []api.Node{none, a}},
		node(api.Function, "a", node(api.Params, ""), none, node(api.Block, "", node(api.Return, "", a))), node(api.Block, "", node(api.Let, "a", none, a)), node(api.Return, "", none),
		node(api.Expr, "", node(api.New, "a")), node(api.Let, "b", node(api.TypeName, "a"), one),
		node(api.Expr, "", node(api.Func, "", node(api.Params, "", node(api.Param, "a", none)), none, node(api.Block, "", node(api.Expr, "", node(api.Assign, "", a, a))))),
	}
	tops := []api.Node{node(api.Expr, "", one), node(api.Let, "a", none, one), node(api.Alias, "a", node(api.TypeName, "any")), node(api.Import, "./x", node(api.ImportOne, "*", a)), node(api.Class, "a")}
	for _, stmts := range rows(few, 3) {
		for _, top := range tops {
			held(t, node(api.Module, "", append([]api.Node{top}, stmts...)...))
			held(t, node(api.Module, "", append(stmts[:len(stmts):len(stmts)], top)...))
			held(t, node(api.Module, "", top, node(api.Block, "", stmts...)))
			held(t, node(api.Module, "", node(api.Function, "f", node(api.Params, "", node(api.Param, "a", none)), none, node(api.Block, "", stmts...)), top))
			method := node(api.Class, "C", node(api.Ctor, "", node(api.Params, ""), node(api.Block, "", stmts...)))
			held(t, node(api.Module, "", method, top))
		}
	}
}

// 9.1: all modules of up to three of a few items that declare, import or export.
func TestSmallItems(t *testing.T) {
	one, none := api.Node{Kind: api.Num, N: 1}, node(api.None, "")
	a, x := node(api.Name, "a"), node(api.Name, "x")
	let := node(api.Let, "a", none, one)
	function := node(api.Function, "a", node(api.Params, ""), none, node(api.Block, ""))
	few := []api.Node{
		let, node(api.Export, "", let), function, node(api.Export, "", function), node(api.Default, "", function), node(api.Default, "", node(api.Class, "a")), node(api.Default, "", one), node(api.Default, "", a),
		node(api.Export, "", node(api.Alias, "a", node(api.TypeName, "any"))), node(api.Import, "./x", node(api.ImportOne, "a", a)), node(api.Import, "./x", node(api.ImportOne, "a", x), node(api.ImportOne, "x", a)),
		node(api.ExportFrom, "", node(api.ExportOne, "a", none)), node(api.ExportFrom, "", node(api.ExportOne, "a", node(api.Name, "default"))), node(api.ExportFrom, "", node(api.ExportOne, "a", x), node(api.ExportOne, "x", a)),
		node(api.ExportFrom, "./x", node(api.ExportOne, "a", none)), node(api.ExportFrom, "./x", node(api.ExportOne, "*", none)), node(api.ExportFrom, "./x", node(api.ExportOne, "*", a)), node(api.ExportFrom, "./x", node(api.ExportOne, "default", none)),
	}
	for _, items := range rows(few, 3) {
		held(t, node(api.Module, "", items...))
	}
}

// rows are all rows of up to most of a few trees.
func rows(few []api.Node, most int) [][]api.Node {
	all := [][]api.Node{nil}
	for from := 0; most > 0; most-- {
		to := len(all)
		for _, row := range all[from:to] {
			for _, n := range few {
				all = append(all, append(row[:len(row):len(row)], n))
			}
		}
		from = to
	}
	return all
}

// R5: many tops and names come in the order of their places, whatever the order of a map.
func TestOrder(t *testing.T) {
	whole := node(api.Module, "")
	for i := range 300 {
		name := fmt.Sprint("a", i*7919%300)
		whole.Kids = append(whole.Kids, node(api.Let, name, node(api.None, ""), node(api.Name, fmt.Sprint("a", i))))
	}
	want, _, _ := expected(whole)
	for range 20 {
		if s, at, err := Resolve(whole); told(s, at, err) != told(want, 0, api.OK) {
			t.Fatalf("%s, want %s", told(s, at, err), told(want, 0, api.OK))
		}
	}
}

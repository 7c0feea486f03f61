package tree

import (
	"fmt"
	"slices"
	"strings"
	"testing"

	"gusset/api"
)

// nd is a tree with N 0.
func nd(kind int, text string, kids ...api.Node) api.Node {
	return api.Node{Kind: kind, Text: text, Kids: kids}
}

func num(n int) api.Node {
	return api.Node{Kind: api.Num, N: n}
}

func name(s string) api.Node {
	return nd(api.Name, s)
}

func typ(s string) api.Node {
	return nd(api.TypeName, s)
}

func withN(n api.Node, i int) api.Node {
	n.N = i
	return n
}

// with is n with other kids.
func with(n api.Node, kids ...api.Node) api.Node {
	n.Kids = kids
	return n
}

// with1 is n with its i-th kid another one.
func with1(n api.Node, i int, kid api.Node) api.Node {
	n.Kids = slices.Clone(n.Kids)
	n.Kids[i] = kid
	return n
}

var (
	none   = nd(api.None, "")
	params = nd(api.Params, "")
	block  = nd(api.Block, "")
)

// told is a tree as text, told in full.
func told(n api.Node) string {
	var kids []string
	for _, k := range n.Kids {
		kids = append(kids, told(k))
	}
	return fmt.Sprintf("%d %q %d (%s)", n.Kind, n.Text, n.N, strings.Join(kids, ", "))
}

// isForm holds what Form answers against a form.
func isForm(t *testing.T, n api.Node, want int) {
	t.Helper()
	if f := Form(n); f != want {
		t.Errorf("Form(%.500s): %d, want %d", told(n), f, want)
	}
}

// A sample is a whole tree of one kind with no more kids than it must have, and what the chapter says of that kind.
type sample struct {
	tree api.Node
	text string // the sort of its text
	most int    // its N is 0 to this
	kids string // the sorts of the kids it must have; behind a sort with a * there may be more of these
	in   func(api.Node) api.Node
	form int // of what in answers
}

// groups are the sorts of kids.
func groups() map[string][]int {
	g := map[string][]int{
		"E": {api.Num, api.Text, api.Bool, api.Null, api.Undef, api.Name, api.This, api.Array, api.Object, api.Func, api.Unary, api.Binary, api.Cond, api.Assign, api.Call, api.New, api.Member, api.Index},
		"T": {api.TypeName, api.TypeArray, api.TypeUnion, api.TypeObject, api.TypeFunc},
		"S": {api.Let, api.Function, api.Expr, api.If, api.While, api.Return, api.Throw, api.Block},
		"I": {api.Class, api.Alias, api.Import, api.Export, api.Default, api.ExportFrom},

		"Target": {api.Name, api.Member, api.Index}, "Declaration": {api.Let, api.Function, api.Class, api.Alias}, "Member": {api.Field, api.Ctor, api.Method},
		"None": {api.None}, "Name": {api.Name}, "Prop": {api.Prop}, "Params": {api.Params}, "Param": {api.Param}, "TypeProp": {api.TypeProp}, "Block": {api.Block},
		"ImportOne": {api.ImportOne}, "ExportOne": {api.ExportOne}, "SpaceOne": {api.SpaceOne},
		"U": {api.TypeName, api.TypeArray, api.TypeObject, api.TypeFunc},
	}
	for _, s := range []string{"E", "T", "Block", "Name"} {
		g[s+"?"] = append(slices.Clone(g[s]), api.None)
	}
	g["Item"] = slices.Concat(g["S"], g["I"])
	g["ScriptItem"] = append(slices.Clone(g["S"]), api.Class, api.Space)
	g["Default"] = append(slices.Clone(g["E"]), api.Function, api.Class)
	return g
}

func alone(n api.Node) api.Node { return n }

func inObject(n api.Node) api.Node { return nd(api.Object, "", n) }

func inFunc(n api.Node) api.Node { return nd(api.Func, "", n, none, block) }

func inParams(n api.Node) api.Node { return inFunc(nd(api.Params, "", n)) }

func inReturn(n api.Node) api.Node { return nd(api.Return, "", n) }

func inTypeObject(n api.Node) api.Node { return nd(api.TypeObject, "", n) }

func inClass(n api.Node) api.Node { return nd(api.Class, "C", n) }

func inImport(n api.Node) api.Node { return nd(api.Import, "./m", n) }

func inExport(n api.Node) api.Node { return nd(api.ExportFrom, "./m", n) }

func inScript(n api.Node) api.Node { return nd(api.Script, "", n) }

func inSpace(n api.Node) api.Node { return inScript(nd(api.Space, "s", n)) }

// samples are one of each kind, as the chapter's section Forms has them.
func samples() []sample {
	e, s, i := api.FormExpr, api.FormStmt, api.FormItem
	return []sample{
		{num(7), "", 9007199254740991, "", alone, e},
		{nd(api.Text, "a b"), "valid", 0, "", alone, e},
		{nd(api.Bool, ""), "", 1, "", alone, e},
		{nd(api.Null, ""), "", 0, "", alone, e},
		{nd(api.Undef, ""), "", 0, "", alone, e},
		{name("x"), "id", 0, "", alone, e},
		{nd(api.This, ""), "", 0, "", alone, e},
		{nd(api.Array, ""), "", 0, "E*", alone, e},
		{nd(api.Object, ""), "", 0, "Prop*", alone, e},
		{nd(api.Prop, "x", num(1)), "prop", 0, "E", inObject, e},
		{nd(api.Func, "", params, none, block), "", 0, "Params T? Block", alone, e},
		{params, "", 0, "Param*", inFunc, e},
		{nd(api.Param, "x", none), "id", 0, "T?", inParams, e},
		{none, "", 0, "", inReturn, s},
		{nd(api.Unary, "-", num(1)), "unary", 0, "E", alone, e},
		{nd(api.Binary, "+", num(1), num(2)), "binary", 0, "E E", alone, e},
		{nd(api.Cond, "", num(1), num(2), num(3)), "", 0, "E E E", alone, e},
		{nd(api.Assign, "", name("x"), num(1)), "", 0, "Target E", alone, e},
		{nd(api.Call, "", name("x")), "", 0, "E E*", alone, e},
		{nd(api.New, "x"), "id", 0, "E*", alone, e},
		{nd(api.Member, "x", name("y")), "prop", 0, "E", alone, e},
		{nd(api.Index, "", name("x"), num(1)), "", 0, "E E", alone, e},

		{typ("x"), "typename", 0, "", alone, api.FormType},
		{nd(api.TypeArray, "", typ("x")), "", 0, "T", alone, api.FormType},
		{nd(api.TypeUnion, "", typ("x"), typ("y")), "", 0, "U U U*", alone, api.FormType},
		{nd(api.TypeObject, ""), "", 0, "TypeProp*", alone, api.FormType},
		{nd(api.TypeProp, "x", typ("y")), "prop", 0, "T", inTypeObject, api.FormType},
		{nd(api.TypeFunc, "", params, typ("x")), "", 0, "Params T", alone, api.FormType},

		{nd(api.Let, "x", none, num(1)), "id", 1, "T? E", alone, s},
		{nd(api.Function, "x", params, none, block), "id", 0, "Params T? Block", alone, s},
		{nd(api.Expr, "", num(1)), "", 0, "E", alone, s},
		{nd(api.If, "", num(1), block, none), "", 0, "E Block Block?", alone, s},
		{nd(api.While, "", num(1), block), "", 0, "E Block", alone, s},
		{nd(api.Return, "", none), "", 0, "E?", alone, s},
		{nd(api.Throw, "", num(1)), "", 0, "E", alone, s},
		{block, "", 0, "S*", alone, s},

		{nd(api.Class, "x"), "id", 0, "Member*", alone, i},
		{nd(api.Field, "x", none, num(1)), "member", 0, "T? E", inClass, i},
		{nd(api.Ctor, "", params, block), "", 0, "Params Block", inClass, i},
		{nd(api.Method, "x", params, none, block), "member", 0, "Params T? Block", inClass, i},
		{nd(api.Alias, "x", typ("y")), "id", 0, "T", alone, i},
		{nd(api.Import, "./m"), "valid", 0, "ImportOne*", alone, i},
		{nd(api.ImportOne, "x", name("y")), "prop*", 0, "Name", inImport, i},
		{nd(api.Export, "", nd(api.Let, "x", none, num(1))), "", 0, "Declaration", alone, i},
		{nd(api.Default, "", num(1)), "", 0, "Default", alone, i},
		{nd(api.ExportFrom, "./m", nd(api.ExportOne, "x", none)), "valid", 1, "ExportOne ExportOne*", alone, i},
		{nd(api.ExportOne, "x", none), "prop*", 0, "Name?", inExport, i},
		{nd(api.Space, "x"), "id", 0, "SpaceOne*", inScript, api.FormScript},
		{nd(api.SpaceOne, "x", name("y")), "prop", 0, "Name", inSpace, api.FormScript},
		{nd(api.Module, ""), "", 0, "Item*", alone, api.FormModule},
		{nd(api.Script, ""), "", 0, "ScriptItem*", alone, api.FormScript},
	}
}

// noKinds are numbers that no tree has for its kind.
func noKinds() []int {
	l := []int{-1 << 63, -2, -1, 0, 1<<63 - 1}
	for _, span := range [][2]int{{23, 29}, {36, 39}, {53, 59}, {70, 140}} {
		for kind := span[0]; kind <= span[1]; kind++ {
			l = append(l, kind)
		}
	}
	return l
}

// words are the chapter's.
const words = "class const default else export false function if import let new null return this throw true typeof undefined while"

// A said is a text and the sorts of which it is.
type said struct {
	text, sorts string
}

// texts are of all sorts, and of none.
func texts() []said {
	const ids, props = "id prop member prop* typename valid", "prop member prop* valid"
	l := []said{
		{"", "valid "}, {"constructor", "id prop prop* typename valid"}, {"*", "prop* valid binary"}, {"-", "valid unary binary"}, {"!", "valid unary"},
		{"\ufffd", "valid"}, {"\xff", "no"}, {"a\xff", "no"}, {"\xc3", "no"}, {"\xed\xa0\x80", "no"}, {"\xffa", "no"},
	}
	for _, s := range strings.Fields(words) {
		sorts := props
		switch s {
		case "null", "undefined":
			sorts += " typename"
		case "typeof":
			sorts += " unary"
		}
		l = append(l, said{s, sorts})
	}
	for _, s := range strings.Fields("+ / % === !== < <= > >= && ||") {
		l = append(l, said{s, "valid binary"})
	}
	for _, s := range strings.Fields("a A z_ _ _1 a1 a1b $ $1 a$ a$1 ä Ωя If IF let_ from as type namespace number string boolean any undefine NaN ÿɏ") {
		l = append(l, said{s, ids})
	}
	for _, s := range []string{"1", "1a", "0", "a b", " a", "a ", "a\n", "a.b", "a-b", "×", "a÷", "a\u0250", "\u03a2", "٣", "a\ufffd", "=", "==", "!=", "&", "|", "=>", "**", "++", "--", "??", "?", ".", " +", "- ", "typeof ", "a//", "\"a\"", "a\x00", "\x00", "./a"} {
		l = append(l, said{s, "valid"})
	}
	return l
}

func (x said) is(sort string) bool {
	if sort == "" {
		return x.text == ""
	}
	return slices.Contains(strings.Fields(x.sorts), sort)
}

// everything is a module that has all kinds that a module may have.
func everything() api.Node {
	let := withN(nd(api.Let, "k", typ("number"), num(1)), 1)
	typed := nd(api.Params, "", nd(api.Param, "p", typ("any")), nd(api.Param, "q", typ("T")))
	untyped := nd(api.Params, "", nd(api.Param, "p", none), nd(api.Param, "q", typ("null")))
	types := nd(api.TypeUnion, "", nd(api.TypeArray, "", nd(api.TypeUnion, "", typ("string"), typ("undefined"))), nd(api.TypeFunc, "", typed, typ("boolean")),
		nd(api.TypeObject, "", nd(api.TypeProp, "if", typ("C")), nd(api.TypeProp, "u", typ("T"))))
	object := nd(api.Object, "", nd(api.Prop, "new", nd(api.Null, "")), nd(api.Prop, "o", nd(api.Undef, "")), nd(api.Prop, "o", withN(nd(api.Bool, ""), 1)))
	fn := nd(api.Func, "", untyped, none, nd(api.Block, "", nd(api.Return, "", nd(api.Binary, "+", name("p"), name("q")))))
	class := nd(api.Class, "C",
		nd(api.Field, "f", typ("number"), nd(api.Unary, "-", num(3))), nd(api.Field, "default", none, nd(api.Text, "t$ext")),
		nd(api.Ctor, "", untyped, nd(api.Block, "", nd(api.Expr, "", nd(api.Assign, "", nd(api.Member, "f", nd(api.This, "")), name("p"))))),
		nd(api.Method, "m", untyped, typ("T"), nd(api.Block, "", nd(api.Throw, "", nd(api.Text, "")))), nd(api.Method, "while", params, none, block))
	loop := nd(api.While, "", nd(api.Cond, "", name("k"), nd(api.Bool, ""), nd(api.Index, "", name("k"), num(0))),
		nd(api.Block, "", nd(api.Expr, "", nd(api.Call, "", nd(api.Member, "if", name("n")), nd(api.New, "C", name("d"), num(2)))), nd(api.Return, "", none)))
	choice := nd(api.If, "", nd(api.Array, "", object, fn), nd(api.Block, "", let, loop), nd(api.Block, "", nd(api.Block, "")))
	return nd(api.Module, "",
		nd(api.Import, "./a$"), nd(api.Import, "", nd(api.ImportOne, "default", name("d")), nd(api.ImportOne, "*", name("n"))),
		withN(nd(api.Import, "./b", nd(api.ImportOne, "T", name("T")), nd(api.ImportOne, "new", name("x"))), 1),
		nd(api.Export, "", let), nd(api.Export, "", nd(api.Alias, "U", types)), nd(api.Export, "", class), nd(api.Default, "", fn),
		nd(api.Default, "", nd(api.Function, "g", untyped, types, nd(api.Block, "", choice))), nd(api.Default, "", nd(api.Class, "D")),
		nd(api.ExportFrom, "", nd(api.ExportOne, "k", nd(api.Name, "default")), nd(api.ExportOne, "x", none)),
		withN(nd(api.ExportFrom, "./c$", nd(api.ExportOne, "default", name("y"))), 1), nd(api.ExportFrom, "./d", nd(api.ExportOne, "*", none)),
		nd(api.ExportFrom, "./e", nd(api.ExportOne, "*", nd(api.Name, "if"))), choice, class)
}

// bundle is a script that has all kinds that a script may have, with names that are of scripts alone.
func bundle() api.Node {
	items := []api.Node{nd(api.Space, "$1", nd(api.SpaceOne, "x", name("x$1")), nd(api.SpaceOne, "default", name("$2"))), nd(api.Space, "$2")}
	for _, n := range everything().Kids {
		switch n.Kind {
		case api.Import, api.Export, api.Default, api.ExportFrom:
		default:
			items = append(items, n)
		}
	}
	return nd(api.Script, "", append(items, nd(api.Let, "a$1", none, num(1)), nd(api.Expr, "", name("x$1")))...)
}

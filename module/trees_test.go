package module

import (
	"cmp"
	"fmt"
	"math/rand"
	"slices"
	"strings"
	"testing"

	"gusset/api"
	"gusset/parse"
	"gusset/tree"
)

// A maker makes trees with sources that say them, in one of many ways: tokens with blanks between.
type maker struct {
	*rand.Rand
	t      *testing.T
	script bool
}

// A said is a tree, and a source that says it.
type said struct {
	tree   api.Node
	source string
}

func node(kind int, text string, kids ...api.Node) api.Node {
	return api.Node{Kind: kind, Text: text, Kids: kids}
}

func (m maker) one(l ...string) string { return l[m.Intn(len(l))] }

func (m maker) id() string {
	if m.script && m.Intn(3) == 0 {
		return m.one("$", "a$1", "$2")
	}
	return m.one("a", "b", "type", "from", "as", "namespace", "constructor", "x1", "ä")
}

func (m maker) prop() string {
	return m.one(m.id(), "if", "default", "null", "class")
}

// below makes what layer 6 reads.
func (m maker) below(read func([]api.Token, int) (api.Node, int, api.Errno), sources ...string) said {
	s := m.one(sources...)
	n, _, err := read(tokens(m.t, s), 0)
	if err != api.OK {
		m.t.Fatalf("%s: %d", s, err)
	}
	return said{n, s}
}

func (m maker) expr() said {
	return m.below(parse.Expr, "1", "a", "a . b ( c )", "( a ) => { b ; }", "{ a : 1 }", "( a + b )", "type", "from", "[ as , ]", "'c'", "a = b", "function ( ) { }", "() => 1")
}

func (m maker) typ() said {
	return m.below(parse.Type, "T", "number [ ]", "type | null", "{ a : T ; }", "( a : T ) => U", "( from )")
}

func (m maker) stmt() said {
	return m.below(parse.Stmt, "a ;", "let b = 1 ;", "const type : T = a ;", "function f ( a ) { return ; }", "if ( a ) { } else { b ; }", "{ }", "while ( a ) { a = b ; }", "type = 1 ;", "namespace . a ;", "throw 'x' ;", "( { } ) ;")
}

func (m maker) typeOrNone() said {
	if m.Intn(2) == 0 {
		return said{node(api.None, ""), ""}
	}
	s := m.typ()
	return said{s.tree, " : " + s.source}
}

// list says things with commas between, and perhaps one behind the last.
func (m maker) list(l []string) string {
	s := strings.Join(l, " , ")
	if len(l) > 0 && m.Intn(2) == 0 {
		s += " ,"
	}
	return s
}

func (m maker) params() said {
	n, names := node(api.Params, ""), []string{"a", "type", "from", "b"}
	var l []string
	for _, i := range m.Perm(4)[:m.Intn(4)] {
		s := m.typeOrNone()
		n.Kids = append(n.Kids, node(api.Param, names[i], s.tree))
		l = append(l, names[i]+s.source)
	}
	return said{n, " ( " + m.list(l) + " ) "}
}

func (m maker) block() said {
	n, s := node(api.Block, ""), " {"
	for range m.Intn(3) {
		x := m.stmt()
		n.Kids, s = append(n.Kids, x.tree), s+" "+x.source
	}
	return said{n, s + " } "}
}

func (m maker) class() said {
	n := node(api.Class, m.id())
	s := "class " + n.Text + " {"
	props := []string{"a", "b", "if", "class", "type", "namespace", "c"}
	var l []api.Node
	ctor := m.Intn(8)
	for i, at := range m.Perm(7)[:m.Intn(8)] {
		name, typed, in, block := props[at], m.typeOrNone(), m.params(), m.block()
		switch {
		case i == ctor:
			l = append(l, node(api.Ctor, "", in.tree, block.tree))
			s += " constructor" + in.source + block.source
		case m.Intn(2) == 0:
			e := m.expr()
			l = append(l, node(api.Field, name, typed.tree, e.tree))
			s += " " + name + typed.source + " = " + e.source + " ;"
		default:
			l = append(l, node(api.Method, name, in.tree, typed.tree, block.tree))
			s += " " + name + in.source + typed.source + block.source
		}
	}
	slices.SortStableFunc(l, func(a, b api.Node) int { return cmp.Compare(a.Kind, b.Kind) })
	n.Kids = l
	return said{n, s + " }"}
}

func (m maker) alias() said {
	name, x := m.id(), m.typ()
	return said{node(api.Alias, name, x.tree), "type " + name + " = " + x.source + " ;"}
}

func (m maker) text(full bool) (string, string) {
	x := m.Intn(5)
	if full {
		x = m.Intn(4)
	}
	return []string{"./x", "x", "a\n'", "ä€", ""}[x], [][]string{{`'./x'`, `"./x"`, `"\u{2e}/x"`}, {"'x'", `"x"`}, {`"a\n'"`, `'a\u{a}\''`}, {"'ä€'", `"\u{e4}€"`}, {"''", `""`}}[x][m.Intn(2)]
}

func (m maker) imported() said {
	text, quoted := m.text(false)
	n := api.Node{Kind: api.Import, Text: text}
	add := func(there, here string) { n.Kids = append(n.Kids, node(api.ImportOne, there, node(api.Name, here))) }
	if m.Intn(6) == 0 {
		return said{n, "import " + quoted + " ;"}
	}
	s := "import "
	n.N = m.Intn(2)
	if n.N == 1 {
		s += "type "
	}
	first := m.Intn(2) == 0
	if first {
		name := m.id()
		s += name + " "
		add("default", name)
	}
	switch x := m.Intn(3); {
	case x == 0 && n.N == 0:
		name := m.id()
		s += strings.Repeat(", ", len(n.Kids)) + "* as " + name
		add("*", name)
	case x == 1 || !first:
		s += strings.Repeat(", ", len(n.Kids)) + "{ "
		var l []string
		for range m.Intn(4) + n.N {
			there, here := m.prop(), m.id()
			said := there + " as " + here
			if m.Intn(2) == 0 {
				there, said = here, m.one(here, here+" as "+here)
			}
			l = append(l, said)
			add(there, here)
		}
		s += m.list(l) + " }"
	}
	return said{n, s + " from " + quoted + " ;"}
}

func (m maker) exportFrom() said {
	text, quoted := m.text(true)
	n := api.Node{Kind: api.ExportFrom, Text: text}
	if m.Intn(3) == 0 {
		if m.Intn(2) == 0 {
			n.Kids = []api.Node{node(api.ExportOne, "*", node(api.None, ""))}
			return said{n, "export * from " + quoted + " ;"}
		}
		name := m.prop()
		n.Kids = []api.Node{node(api.ExportOne, "*", node(api.Name, name))}
		return said{n, "export * as " + name + " from " + quoted + " ;"}
	}
	n.N = m.Intn(2)
	s := []string{"export ", "export type "}[n.N] + "{ "
	own := m.Intn(2) == 0
	var l []string
	for range 1 + m.Intn(3) {
		there, name := m.prop(), m.prop()
		if own {
			there = m.id()
		}
		said := there + " as " + name
		one := node(api.Name, name)
		if m.Intn(2) == 0 || name == there {
			one, said = node(api.None, ""), m.one(there, there+" as "+there)
		}
		n.Kids = append(n.Kids, node(api.ExportOne, there, one))
		l = append(l, said)
	}
	s += m.list(l) + " }"
	if own {
		n.Text = ""
		return said{n, s + " ;"}
	}
	return said{n, s + " from " + quoted + " ;"}
}

func (m maker) exported() said {
	x := m.class()
	switch m.Intn(5) {
	case 0:
		return m.exportFrom()
	case 1:
		x = m.alias()
	case 2:
		x = m.below(parse.Stmt, "let a = 1 ;", "const type : T = from ;", "function f ( a ) { }")
	case 3:
		y := m.below(parse.Stmt, "function f ( a : T ) { }", "function type ( ) : T { return 1 ; }")
		if m.Intn(2) == 0 {
			y = m.expr()
			y.source += " ;"
			if y.tree.Kind == api.Func {
				y.source = "( " + strings.TrimSuffix(y.source, ";") + ") ;"
			}
		} else if m.Intn(2) == 0 {
			y = x
		}
		return said{node(api.Default, "", y.tree), "export default " + y.source}
	}
	return said{node(api.Export, "", x.tree), "export " + x.source}
}

func (m maker) space() said {
	n := node(api.Space, m.id())
	s := "namespace " + n.Text + " {"
	for range m.Intn(4) {
		there, name := m.prop(), m.id()
		n.Kids = append(n.Kids, node(api.SpaceOne, there, node(api.Name, name)))
		s += " " + there + " = " + name + " ;"
	}
	return said{n, s + " }"}
}

func (m maker) item() said {
	switch x := m.Intn(5); {
	case x == 0:
		return m.stmt()
	case x == 1:
		return m.class()
	case m.script:
		return m.space()
	case x == 2:
		return m.alias()
	case x == 3:
		return m.imported()
	}
	return m.exported()
}

// blanks puts blanks and notes between the tokens of a source, one at least.
func (m maker) blanks(s string) string {
	gap := func() string {
		return strings.Repeat(m.one(" ", "\n", "\t", "\r", "/**/", "/* ; } */", "// {\n", "//\n", "/*\n*/ ", " //*\n"), 1+m.Intn(2))
	}
	b := ""
	for _, token := range strings.Fields(s) {
		b += gap() + token
	}
	return b + gap()
}

// 7.2, 7.3: what is made and said is read as it was; it has its form; blanks and notes between tokens say nothing.
func TestMade(t *testing.T) {
	for seed := range int64(6000) {
		m := maker{rand.New(rand.NewSource(seed)), t, seed%2 == 1}
		kind, form, call := api.Module, api.FormModule, Module
		if m.script {
			kind, form, call = api.Script, api.FormScript, Script
		}
		want, s := node(kind, ""), ""
		for range m.Intn(5) {
			x := m.item()
			want.Kids = append(want.Kids, x.tree)
			s += x.source + " "
		}
		if tree.Form(want) != form {
			t.Fatalf("what is made has the form %d: %s", tree.Form(want), told(want))
		}
		for _, source := range []string{s, m.blanks(s), m.blanks(s)} {
			got, at, err := call(source)
			if !tree.Same(got, want) || at != 0 || err != api.OK {
				t.Fatalf("%s\nis %s, %d, %d;\nwant %s", source, told(got), at, err, told(want))
			}
			if tree.Form(got) != form {
				t.Fatalf("%s has the form %d", source, tree.Form(got))
			}
		}
	}
}

// 7.3: blanks and notes between tokens move the place of an error, and say nothing else.
func TestBlanks(t *testing.T) {
	m := maker{rand.New(rand.NewSource(1)), t, false}
	for _, s := range []string{"import { if } from './x' ;", "class C { m ( ) { } m ( ) { } }", "export { } ;", "export * from '' ;", "namespace n { a = b ; }", "let a = 1", "export { if } ;", "class C { constructor = 1 ; }"} {
		_, at, err := Module(s)
		ahead := len(strings.Fields(s[:at]))
		for range 50 {
			wide := m.blanks(s)
			n, got, gotErr := Module(wide)
			want := len(wide)
			if fields := strings.Fields(s); ahead < len(fields) {
				want = m.placeOf(wide, ahead)
			}
			if n.Kind != 0 || got != want || gotErr != err {
				t.Errorf("%q: %d, %d; want %d, %d", wide, got, gotErr, want, err)
			}
		}
	}
}

// placeOf is the byte at which the token of that number begins.
func (m maker) placeOf(s string, number int) int {
	l := tokens(m.t, s)
	if number >= len(l) {
		m.t.Fatal(fmt.Sprint("no token ", number))
	}
	return l[number].At
}

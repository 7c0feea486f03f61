package parse

import (
	"math/rand"
	"slices"
	"strings"
	"testing"

	"gusset/api"
	"gusset/tree"
)

func node(kind int, text string, kids ...api.Node) api.Node {
	return api.Node{Kind: kind, Text: text, Kids: kids}
}

// A maker makes trees and sources that say them, in one of many ways.
type maker struct {
	*rand.Rand
}

func (m maker) one(l ...string) string { return l[m.Intn(len(l))] }

func (m maker) id() string { return m.one("a", "b", "c", "type", "x1") }

func (m maker) prop() string { return m.one("a", "b", "if", "null", "class") }

// some are up to three trees that make makes.
func (m maker) some(make func() api.Node) []api.Node {
	var l []api.Node
	for range m.Intn(4) {
		l = append(l, make())
	}
	return l
}

func (m maker) expr(deep int) api.Node {
	e := func() api.Node { return m.expr(deep - 1) }
	if deep <= 0 {
		return []api.Node{node(api.Name, m.id()), {Kind: api.Num, N: m.Intn(99)}, node(api.Text, m.one("", "a", ")")), {Kind: api.Bool, N: m.Intn(2)}, node(api.Null, ""), node(api.Undef, ""), node(api.This, "")}[m.Intn(7)]
	}
	switch m.Intn(14) {
	case 0:
		return node(api.Array, "", m.some(e)...)
	case 1:
		return node(api.Object, "", m.some(func() api.Node { return node(api.Prop, m.prop(), e()) })...)
	case 2, 3:
		return node(api.Func, "", m.params(deep-1, false), m.typeOrNone(deep-1), m.block(deep-1))
	case 4:
		return node(api.Unary, m.one("-", "!", "typeof"), e())
	case 5, 6, 7:
		return node(api.Binary, m.one("||", "&&", "===", "!==", "<", "<=", ">", ">=", "+", "-", "*", "/", "%"), e(), e())
	case 8:
		return node(api.Cond, "", e(), e(), e())
	case 9:
		target := node(api.Name, m.id())
		switch m.Intn(3) {
		case 0:
			target = node(api.Member, m.prop(), e())
		case 1:
			target = node(api.Index, "", e(), e())
		}
		return node(api.Assign, "", target, e())
	case 10:
		return node(api.Call, "", append([]api.Node{e()}, m.some(e)...)...)
	case 11:
		return node(api.New, m.id(), m.some(e)...)
	case 12:
		return node(api.Member, m.prop(), e())
	}
	return node(api.Index, "", e(), e())
}

func (m maker) params(deep int, typed bool) api.Node {
	names := []string{"a", "b", "c", "d"}
	m.Shuffle(4, func(i, j int) { names[i], names[j] = names[j], names[i] })
	return node(api.Params, "", m.some(func() api.Node {
		name := names[0]
		names = names[1:]
		if typed {
			return node(api.Param, name, m.typ(deep))
		}
		return node(api.Param, name, m.typeOrNone(deep))
	})...)
}

func (m maker) typeOrNone(deep int) api.Node {
	if m.Intn(2) == 0 {
		return node(api.None, "")
	}
	return m.typ(deep)
}

func (m maker) typ(deep int) api.Node {
	names := []string{"a", "b", "if", "null"}
	switch m.Intn(5) * min(1, max(deep, 0)) {
	case 1:
		return node(api.TypeArray, "", m.typ(deep-1))
	case 2:
		l := []api.Node{}
		for len(l) < 2+m.Intn(2) {
			if n := m.typ(deep - 1); n.Kind != api.TypeUnion {
				l = append(l, n)
			}
		}
		return node(api.TypeUnion, "", l...)
	case 3:
		return node(api.TypeObject, "", m.some(func() api.Node {
			name := names[0]
			names = names[1:]
			return node(api.TypeProp, name, m.typ(deep-1))
		})...)
	case 4:
		return node(api.TypeFunc, "", m.params(deep-1, true), m.typ(deep-1))
	}
	return node(api.TypeName, m.one("T", "number", "null", "undefined", "any"))
}

func (m maker) block(deep int) api.Node {
	if deep <= 0 {
		return node(api.Block, "")
	}
	return node(api.Block, "", m.some(func() api.Node { return m.stmt(deep - 1) })...)
}

func (m maker) stmt(deep int) api.Node {
	none := node(api.None, "")
	switch m.Intn(9) {
	case 0, 1:
		return api.Node{Kind: api.Let, Text: m.id(), N: m.Intn(2), Kids: []api.Node{m.typeOrNone(deep - 1), m.expr(deep - 1)}}
	case 2:
		return node(api.Function, m.id(), m.params(deep-1, false), m.typeOrNone(deep-1), m.block(deep-1))
	case 3:
		n := node(api.If, "", m.expr(deep-1), m.block(deep-1), none)
		switch m.Intn(3) {
		case 0:
			n.Kids[2] = m.block(deep - 1)
		case 1:
			n.Kids[2] = node(api.Block, "", node(api.If, "", m.expr(deep-1), m.block(deep-1), none))
		}
		return n
	case 4:
		return node(api.While, "", m.expr(deep-1), m.block(deep-1))
	case 5:
		if m.Intn(3) == 0 {
			return node(api.Return, "", none)
		}
		return node(api.Return, "", m.expr(deep-1))
	case 6:
		return node(api.Throw, "", m.expr(deep-1))
	case 7:
		return m.block(deep - 1)
	}
	return node(api.Expr, "", m.expr(deep-1))
}

// list says things with commas between, and perhaps one behind the last.
func (m maker) list(l []api.Node, say func(api.Node) string) string {
	var said []string
	for _, n := range l {
		said = append(said, say(n))
	}
	s := strings.Join(said, " , ")
	if len(l) > 0 && m.Intn(3) == 0 {
		s += " ,"
	}
	return s
}

func (m maker) sayParams(n api.Node) string {
	return "( " + m.list(n.Kids, func(p api.Node) string { return p.Text + m.sayTypeOrNone(p.Kids[0]) }) + " )"
}

func (m maker) sayTypeOrNone(n api.Node) string {
	if n.Kind == api.None {
		return ""
	}
	return " : " + m.sayType(n)
}

func (m maker) any(n api.Node) string { return m.sayExpr(n, 1) }

// sayExpr says an expression where one is wanted that binds at least that much: 1 Expr, 2 Cond, 3 to 8 the lines of operators, 9 Unary, 10 Postfix.
func (m maker) sayExpr(n api.Node, least int) string {
	s, binds := m.plain(n)
	if binds < least || m.Intn(9) == 0 {
		return "( " + s + " )"
	}
	return s
}

func (m maker) plain(n api.Node) (string, int) {
	switch n.Kind {
	case api.Num, api.Text, api.Bool, api.Null, api.Undef, api.Name, api.This:
		return strings.TrimSpace(leaf(n)), 11
	case api.Array:
		return "[ " + m.list(n.Kids, m.any) + " ]", 11
	case api.Object:
		return "{ " + m.list(n.Kids, m.sayProp) + " }", 11
	case api.Func:
		return m.sayFunc(n)
	case api.Unary:
		return n.Text + " " + m.sayExpr(n.Kids[0], 9), 9
	case api.Binary:
		line := 3 + slices.IndexFunc([]string{" || ", " && ", " === !== ", " < <= > >= ", " + - ", " * / % "}, func(s string) bool { return strings.Contains(s, " "+n.Text+" ") })
		return m.sayExpr(n.Kids[0], line) + " " + n.Text + " " + m.sayExpr(n.Kids[1], line+1), line
	case api.Cond:
		return m.sayExpr(n.Kids[0], 3) + " ? " + m.any(n.Kids[1]) + " : " + m.any(n.Kids[2]), 2
	case api.Assign:
		return m.sayExpr(n.Kids[0], 10) + " = " + m.any(n.Kids[1]), 1
	case api.Call:
		return m.sayExpr(n.Kids[0], 10) + " ( " + m.list(n.Kids[1:], m.any) + " )", 10
	case api.New:
		return "new " + n.Text + " ( " + m.list(n.Kids, m.any) + " )", 10
	case api.Member:
		return m.sayExpr(n.Kids[0], 10) + " . " + n.Text, 10
	}
	return m.sayExpr(n.Kids[0], 10) + " [ " + m.any(n.Kids[1]) + " ]", 10
}

func leaf(n api.Node) string {
	switch n.Kind {
	case api.Num:
		return source([]api.Token{{Kind: api.TokenNumber, N: n.N}})
	case api.Text:
		return "'" + n.Text + "'"
	case api.Bool:
		return []string{"false", "true"}[n.N]
	case api.Name:
		return n.Text
	}
	return map[int]string{api.Null: "null", api.Undef: "undefined", api.This: "this"}[n.Kind]
}

func (m maker) sayProp(n api.Node) string {
	if told(n.Kids[0]) == n.Text && n.Kids[0].Kind == api.Name && m.Intn(2) == 0 {
		return n.Text
	}
	return n.Text + " : " + m.any(n.Kids[0])
}

// sayFunc says a function by its word, or, where it has no type, as an arrow, whose expression takes all that stands behind it.
func (m maker) sayFunc(n api.Node) (string, int) {
	params, block := m.sayParams(n.Kids[0]), n.Kids[2]
	if n.Kids[1].Kind != api.None || m.Intn(3) == 0 {
		return "function " + params + m.sayTypeOrNone(n.Kids[1]) + " " + m.sayBlock(block), 11
	}
	if len(block.Kids) == 1 && block.Kids[0].Kind == api.Return && block.Kids[0].Kids[0].Kind != api.None && m.Intn(4) > 0 {
		e := m.any(block.Kids[0].Kids[0])
		if e[0] == '{' {
			e = "( " + e + " )"
		}
		return params + " => " + e, 1
	}
	return params + " => " + m.sayBlock(block), 11
}

func (m maker) sayType(n api.Node) string {
	if m.Intn(9) == 0 {
		return "( " + m.plainType(n) + " )"
	}
	return m.plainType(n)
}

func (m maker) plainType(n api.Node) string {
	switch n.Kind {
	case api.TypeArray:
		s := m.sayType(n.Kids[0])
		if k := n.Kids[0].Kind; k == api.TypeUnion || k == api.TypeFunc {
			s = "( " + s + " )"
		}
		return s + " [ ]"
	case api.TypeUnion:
		return m.sayUnion(n.Kids)
	case api.TypeObject:
		s := "{ "
		for _, p := range n.Kids {
			s += p.Text + " : " + m.sayType(p.Kids[0]) + " ; "
		}
		return s + "}"
	case api.TypeFunc:
		return m.sayParams(n.Kids[0]) + " => " + m.sayType(n.Kids[1])
	}
	return n.Text
}

// sayUnion says the types of a union, perhaps some of them together in brackets: it is the same union.
func (m maker) sayUnion(l []api.Node) string {
	var said []string
	for len(l) > 0 {
		n := 1 + m.Intn(len(l))
		s := ""
		if n > 1 {
			s = "( " + m.sayUnion(l[:n]) + " )"
		} else if s = m.sayType(l[0]); l[0].Kind == api.TypeFunc && len(l) > 1 {
			s = "( " + s + " )"
		}
		said = append(said, s)
		l = l[n:]
	}
	return strings.Join(said, " | ")
}

func (m maker) sayBlock(n api.Node) string {
	s := "{ "
	for _, k := range n.Kids {
		s += m.sayStmt(k) + " "
	}
	return s + "}"
}

func (m maker) sayStmt(n api.Node) string {
	switch n.Kind {
	case api.Let:
		return []string{"let ", "const "}[n.N] + n.Text + m.sayTypeOrNone(n.Kids[0]) + " = " + m.any(n.Kids[1]) + " ;"
	case api.Function:
		return "function " + n.Text + " " + m.sayParams(n.Kids[0]) + m.sayTypeOrNone(n.Kids[1]) + " " + m.sayBlock(n.Kids[2])
	case api.If:
		s := "if ( " + m.any(n.Kids[0]) + " ) " + m.sayBlock(n.Kids[1])
		switch b := n.Kids[2]; {
		case b.Kind == api.None:
			return s
		case len(b.Kids) == 1 && b.Kids[0].Kind == api.If && m.Intn(3) > 0:
			return s + " else " + m.sayStmt(b.Kids[0])
		default:
			return s + " else " + m.sayBlock(b)
		}
	case api.While:
		return "while ( " + m.any(n.Kids[0]) + " ) " + m.sayBlock(n.Kids[1])
	case api.Return:
		if n.Kids[0].Kind == api.None {
			return "return ;"
		}
		return "return " + m.any(n.Kids[0]) + " ;"
	case api.Throw:
		return "throw " + m.any(n.Kids[0]) + " ;"
	case api.Block:
		return m.sayBlock(n)
	}
	s := m.any(n.Kids[0])
	if strings.HasPrefix(s, "{") || strings.HasPrefix(s, "function ") {
		s = "( " + s + " )"
	}
	return s + " ;"
}

// 6.1, 6.2: many trees, said in one of the ways that say them, are read as they were; and a beginning of the tokens is refused, or a whole one.
func TestTrees(t *testing.T) {
	t.Parallel()
	m := maker{rand.New(rand.NewSource(6))}
	for i := range 40000 {
		n, f, s := api.Node{}, exprs, ""
		switch deep := i / 3 % 6; i % 3 {
		case 0:
			n = m.expr(deep)
			s = m.any(n)
		case 1:
			n, f = m.typ(deep), types
			s = m.sayType(n)
		case 2:
			n, f = m.stmt(deep), stmts
			s = m.sayStmt(n)
		}
		if tree.Form(n) != f.form {
			t.Fatalf("no whole tree: %s", told(n))
		}
		l := tokens(t, s)
		got, at, err := f.call(l, 0)
		if !tree.Same(got, n) || at != len(l) || err != api.OK {
			t.Fatalf("%s(%s): %s, %d, %d; want %s, %d", f.name, s, told(got), at, err, told(n), len(l))
		}
		if size := m.Intn(len(l)); size > 0 {
			if n, at, err := f.call(l[:size], 0); at > size || err == api.OK && (at < size || tree.Form(n) != f.form) {
				t.Fatalf("%s(%s): %s, %d, %d", f.name, source(l[:size]), told(n), at, err)
			}
		}
	}
}

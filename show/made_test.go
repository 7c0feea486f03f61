package show

import (
	"fmt"
	"math/rand"

	"gusset/api"
)

// A maker makes trees of no more than a Depth that it is given.
type maker struct {
	*rand.Rand
	bare    bool // no name has a $
	untyped bool // there are no types
}

func (m maker) one(l ...string) string { return l[m.Intn(len(l))] }

func (m maker) id() string {
	if !m.bare && m.Intn(3) == 0 {
		return m.one("$", "a$1", "$2", "function$")
	}
	return m.one("a", "b", "c", "type", "from", "as", "namespace", "constructor", "functional", "x1", "ä_")
}

func (m maker) prop() string {
	return m.one(m.id(), m.id(), "if", "default", "null", "class", "function")
}

func (m maker) text() string {
	return m.one("", "./m", "a b", "(", "{", "}\n", "\"\\", "\r\x00", "ä€", "//", "/*", "function", "*")
}

// some are as many as it happens, with names that differ where a kind asks for that.
func (m maker) some(make func(name string) api.Node) []api.Node {
	var l []api.Node
	for i := range m.Intn(4) {
		l = append(l, make(m.one(fmt.Sprint("a", i), fmt.Sprint("type", i), fmt.Sprint("function", i))))
	}
	return l
}

func (m maker) exprs(deep int) []api.Node {
	return m.some(func(string) api.Node { return m.expr(deep) })
}

func (m maker) expr(deep int) api.Node {
	kind := m.Intn(19)
	if deep < 4 {
		kind = m.Intn(7)
	}
	switch kind {
	case 7:
		return node(api.Array, "", m.exprs(deep-1)...)
	case 8:
		return node(api.Object, "", m.some(func(string) api.Node { return node(api.Prop, m.prop(), m.expr(deep-2)) })...)
	case 9:
		return node(api.Func, "", m.callable(deep-1)...)
	case 10:
		return node(api.Unary, m.one("-", "!", "typeof"), m.expr(deep-1))
	case 11, 12:
		return node(api.Binary, m.one("+", "-", "*", "/", "%", "===", "!==", "<", "<=", ">", ">=", "&&", "||"), m.expr(deep-1), m.expr(deep-1))
	case 13:
		return node(api.Cond, "", m.expr(deep-1), m.expr(deep-1), m.expr(deep-1))
	case 14:
		target := []api.Node{node(api.Name, m.id()), node(api.Member, m.prop(), m.expr(deep-2)), node(api.Index, "", m.expr(deep-2), m.expr(deep-2))}
		return node(api.Assign, "", target[m.Intn(3)], m.expr(deep-1))
	case 15:
		return node(api.Call, "", append([]api.Node{m.expr(deep - 1)}, m.exprs(deep-1)...)...)
	case 16:
		return node(api.New, m.id(), m.exprs(deep-1)...)
	case 17:
		return node(api.Member, m.prop(), m.expr(deep-1))
	case 18:
		return node(api.Index, "", m.expr(deep-1), m.expr(deep-1))
	}
	leaves := []api.Node{{Kind: api.Num, N: m.Intn(20)}, {Kind: api.Text, Text: m.text()}, {Kind: api.Bool, N: m.Intn(2)}, {Kind: api.Null}, {Kind: api.Undef}, {Kind: api.This}, {Kind: api.Name, Text: m.id()}}
	return leaves[kind]
}

// callable are Params, a type or None, a Block.
func (m maker) callable(deep int) []api.Node {
	return []api.Node{m.params(deep, false), m.typeOrNone(deep), m.block(deep)}
}

func (m maker) params(deep int, typed bool) api.Node {
	if deep < 4 {
		return node(api.Params, "")
	}
	return node(api.Params, "", m.some(func(name string) api.Node {
		if typed {
			return node(api.Param, name, m.typ(deep-2))
		}
		return node(api.Param, name, m.typeOrNone(deep-2))
	})...)
}

func (m maker) typeOrNone(deep int) api.Node {
	if m.untyped || m.Intn(2) == 0 {
		return node(api.None, "")
	}
	return m.typ(deep)
}

func (m maker) typ(deep int) api.Node {
	kind := m.Intn(5)
	if deep < 4 {
		kind = 0
	}
	switch kind {
	case 1:
		return node(api.TypeArray, "", m.typ(deep-1))
	case 2:
		l := []api.Node{m.plain(deep - 1), m.plain(deep - 1)}
		return node(api.TypeUnion, "", append(l, m.some(func(string) api.Node { return m.plain(deep - 1) })...)...)
	case 3:
		return node(api.TypeObject, "", m.some(func(name string) api.Node { return node(api.TypeProp, name, m.typ(deep-2)) })...)
	case 4:
		return node(api.TypeFunc, "", m.params(deep-1, true), m.typ(deep-1))
	}
	return node(api.TypeName, m.one(m.id(), "number", "null", "undefined", "any"))
}

// plain is a type that is no union.
func (m maker) plain(deep int) api.Node {
	for {
		if n := m.typ(deep); n.Kind != api.TypeUnion {
			return n
		}
	}
}

func (m maker) block(deep int) api.Node {
	if deep < 3 {
		return node(api.Block, "")
	}
	return node(api.Block, "", m.some(func(string) api.Node { return m.stmt(deep - 1) })...)
}

func (m maker) let(deep int) api.Node {
	n := node(api.Let, m.id(), m.typeOrNone(deep-1), m.expr(deep-1))
	n.N = m.Intn(2)
	return n
}

func (m maker) function(deep int) api.Node {
	return node(api.Function, m.id(), m.callable(deep-1)...)
}

func (m maker) stmt(deep int) api.Node {
	switch m.Intn(9) {
	case 0:
		return m.let(deep)
	case 1:
		return m.function(deep)
	case 2:
		other := []api.Node{{Kind: api.None}, m.block(deep - 1)}
		return node(api.If, "", m.expr(deep-1), m.block(deep-1), other[m.Intn(2)])
	case 3:
		return node(api.While, "", m.expr(deep-1), m.block(deep-1))
	case 4:
		value := []api.Node{{Kind: api.None}, m.expr(deep - 1)}
		return node(api.Return, "", value[m.Intn(2)])
	case 5:
		return node(api.Throw, "", m.expr(deep-1))
	case 6:
		return m.block(deep)
	}
	return node(api.Expr, "", m.expr(deep-1))
}

func (m maker) class(deep int) api.Node {
	n := node(api.Class, m.id(), m.some(func(name string) api.Node {
		return node(api.Field, name, m.typeOrNone(deep-2), m.expr(deep-2))
	})...)
	if m.Intn(2) == 0 {
		n.Kids = append(n.Kids, node(api.Ctor, "", m.params(deep-2, false), m.block(deep-2)))
	}
	n.Kids = append(n.Kids, m.some(func(name string) api.Node {
		return node(api.Method, "m"+name, m.callable(deep-2)...)
	})...)
	if m.Intn(2) == 0 {
		n.Kids = append(n.Kids, node(api.Method, m.one("if", "class", "type", "from"), m.callable(deep-2)...))
	}
	return n
}

func (m maker) imported() api.Node {
	n := node(api.Import, m.text(), m.some(func(name string) api.Node {
		return node(api.ImportOne, m.one(name, m.prop()), node(api.Name, m.one(name, m.id())))
	})...)
	if m.Intn(3) == 0 {
		n.Kids = append([]api.Node{node(api.ImportOne, "default", node(api.Name, m.id()))}, n.Kids...)
	}
	switch {
	case m.Intn(4) == 0:
		n.Kids = append(n.Kids[:m.Intn(1+min(1, len(n.Kids)))], node(api.ImportOne, "*", node(api.Name, m.id())))
		if len(n.Kids) == 2 {
			n.Kids[0].Text = "default"
		}
	case len(n.Kids) > 0:
		n.N = m.Intn(2)
	}
	return n
}

func (m maker) exported() api.Node {
	exportOne := func(there, name string) api.Node {
		if there == name || m.Intn(3) == 0 {
			return node(api.ExportOne, there, node(api.None, ""))
		}
		return node(api.ExportOne, there, node(api.Name, name))
	}
	if m.Intn(4) == 0 {
		return node(api.ExportFrom, "./m", exportOne("*", m.prop()))
	}
	n := api.Node{Kind: api.ExportFrom, Text: m.text(), N: m.Intn(2)}
	for range 1 + m.Intn(3) {
		if n.Text == "" {
			n.Kids = append(n.Kids, exportOne(m.id(), m.prop()))
		} else {
			n.Kids = append(n.Kids, exportOne(m.prop(), m.prop()))
		}
	}
	return n
}

// item is no statement.
func (m maker) item(deep int) api.Node {
	alias := node(api.Alias, m.id(), m.typ(deep-2))
	switch m.Intn(6) {
	case 0:
		return m.class(deep)
	case 1:
		return alias
	case 2:
		return m.imported()
	case 3:
		return m.exported()
	case 4:
		l := []api.Node{m.let(deep - 1), m.function(deep - 1), m.class(deep - 1), alias}
		return node(api.Export, "", l[m.Intn(4)])
	}
	l := []api.Node{m.expr(deep - 1), m.function(deep - 1), m.class(deep - 1)}
	return node(api.Default, "", l[m.Intn(3)])
}

func (m maker) space() api.Node {
	return node(api.Space, m.id(), m.some(func(string) api.Node {
		return node(api.SpaceOne, m.prop(), node(api.Name, m.id()))
	})...)
}

func (m maker) script(deep int) api.Node {
	return node(api.Script, "", m.some(func(string) api.Node {
		l := []api.Node{m.stmt(deep - 1), m.stmt(deep - 1), m.class(deep - 1), m.space()}
		return l[m.Intn(4)]
	})...)
}

func (m maker) module(deep int) api.Node {
	return node(api.Module, "", m.some(func(string) api.Node {
		l := []api.Node{m.stmt(deep - 1), m.item(deep - 1), m.item(deep - 1)}
		return l[m.Intn(3)]
	})...)
}

// made is a tree of the form, by that number.
func made(form int, seed int64) api.Node {
	m := maker{rand.New(rand.NewSource(seed)), form == api.FormModule, false}
	deep := 5 + m.Intn(6)
	switch form {
	case api.FormExpr:
		return m.expr(deep)
	case api.FormType:
		return m.typ(deep)
	case api.FormStmt:
		return m.stmt(deep)
	case api.FormItem:
		return m.item(deep)
	case api.FormScript:
		return m.script(deep)
	}
	return m.module(deep)
}

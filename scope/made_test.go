package scope

import (
	"fmt"
	"math/rand"

	"gusset/api"
)

// A maker makes trees in which few names stand often.
type maker struct {
	*rand.Rand
	script bool
}

func (m maker) one(l ...string) string { return l[m.Intn(len(l))] }

func (m maker) id() string {
	if m.script && m.Intn(4) == 0 {
		return m.one("a$1", "$2")
	}
	return m.one("a", "b", "c", "d", "T", "C", "print", "text", "any")
}

func (m maker) prop() string { return m.one(m.id(), m.id(), "if", "default") }

func (m maker) some(most int, make func() api.Node) []api.Node {
	var l []api.Node
	for range m.Intn(most + 1) {
		l = append(l, make())
	}
	return l
}

func (m maker) exprs(deep int) []api.Node {
	return m.some(2, func() api.Node { return m.expr(deep) })
}

func (m maker) name() api.Node { return node(api.Name, m.id()) }

func (m maker) expr(deep int) api.Node {
	kind := m.Intn(16)
	if deep < 3 {
		kind = m.Intn(5)
	}
	switch kind {
	case 0, 1:
		return m.name()
	case 2:
		return api.Node{Kind: api.This}
	case 5, 6:
		return node(api.Func, "", m.callable(deep-1)...)
	case 7, 8:
		return node(api.Assign, "", m.name(), m.expr(deep-1))
	case 9:
		return node(api.Assign, "", node(api.Member, m.prop(), m.expr(deep-2)), m.expr(deep-1))
	case 10:
		return node(api.New, m.id(), m.exprs(deep-1)...)
	case 11:
		return node(api.Call, "", append([]api.Node{m.expr(deep - 1)}, m.exprs(deep-1)...)...)
	case 12:
		return node(api.Object, "", m.some(3, func() api.Node { return node(api.Prop, m.prop(), m.expr(deep-2)) })...)
	case 13:
		return node(api.Cond, "", m.expr(deep-1), m.expr(deep-1), m.expr(deep-1))
	case 14:
		return node(api.Index, "", m.expr(deep-1), m.expr(deep-1))
	case 15:
		return node(api.Binary, "+", m.expr(deep-1), m.expr(deep-1))
	}
	return api.Node{Kind: api.Num, N: m.Intn(9)}
}

func (m maker) callable(deep int) []api.Node {
	return []api.Node{m.params(false), m.typeOrNone(deep), m.block(deep)}
}

func (m maker) params(typed bool) api.Node {
	n := node(api.Params, "")
	for _, name := range []string{"a", "b", "T"} {
		if m.Intn(3) > 0 {
			continue
		}
		if typed {
			n.Kids = append(n.Kids, node(api.Param, name, m.typ(2)))
		} else {
			n.Kids = append(n.Kids, node(api.Param, name, m.typeOrNone(2)))
		}
	}
	return n
}

func (m maker) typeOrNone(deep int) api.Node {
	if m.Intn(3) > 0 {
		return node(api.None, "")
	}
	return m.typ(deep)
}

func (m maker) typ(deep int) api.Node {
	kind := m.Intn(7)
	if deep < 3 {
		kind = 0
	}
	switch kind {
	case 1:
		return node(api.TypeArray, "", m.typ(deep-1))
	case 2:
		return node(api.TypeUnion, "", node(api.TypeName, m.id()), node(api.TypeName, m.one("T", "null")))
	case 3:
		return node(api.TypeObject, "", node(api.TypeProp, "T", m.typ(deep-2)), node(api.TypeProp, "if", m.typ(deep-2)))
	case 4:
		return node(api.TypeFunc, "", m.params(true), m.typ(deep-1))
	}
	return node(api.TypeName, m.one("T", "T", "C", "number", "string", "boolean", "undefined", m.id()))
}

func (m maker) block(deep int) api.Node {
	if deep < 2 {
		return node(api.Block, "")
	}
	return node(api.Block, "", m.some(4, func() api.Node { return m.stmt(deep - 1) })...)
}

func (m maker) let(deep int) api.Node {
	n := node(api.Let, m.id(), m.typeOrNone(deep-1), m.expr(deep-1))
	n.N = m.Intn(2)
	return n
}

func (m maker) function(deep int) api.Node {
	return node(api.Function, m.id(), m.callable(deep-1)...)
}

func (m maker) stmt(deep int) api.Node {
	switch m.Intn(10) {
	case 0, 1:
		return m.let(deep)
	case 2:
		return m.function(deep)
	case 3:
		return node(api.If, "", m.expr(deep-1), m.block(deep-1), m.block(deep-1))
	case 4:
		return node(api.While, "", m.expr(deep-1), m.block(deep-1))
	case 5:
		return node(api.Return, "", m.expr(deep-1))
	case 6:
		return m.block(deep)
	}
	return node(api.Expr, "", m.expr(deep-1))
}

func (m maker) class(deep int) api.Node {
	n := node(api.Class, m.id())
	if m.Intn(2) == 0 {
		n.Kids = append(n.Kids, node(api.Field, "a", m.typeOrNone(deep-2), m.expr(deep-2)))
	}
	if m.Intn(2) == 0 {
		n.Kids = append(n.Kids, node(api.Ctor, "", m.params(false), m.block(deep-2)))
	}
	if m.Intn(2) == 0 {
		n.Kids = append(n.Kids, node(api.Method, "b", m.callable(deep-2)...))
	}
	return n
}

func (m maker) imported() api.Node {
	if m.Intn(4) == 0 {
		return node(api.Import, m.one("", "./m"), node(api.ImportOne, "*", m.name()))
	}
	return node(api.Import, m.one("", "./m"), m.some(2, func() api.Node { return node(api.ImportOne, m.prop(), m.name()) })...)
}

func (m maker) exported() api.Node {
	one := func(there string) api.Node {
		if name := m.prop(); name != there && m.Intn(3) > 0 {
			return node(api.ExportOne, there, node(api.Name, name))
		}
		return node(api.ExportOne, there, node(api.None, ""))
	}
	switch m.Intn(5) {
	case 0:
		return node(api.ExportFrom, "./m", one("*"))
	case 1:
		return node(api.ExportFrom, "./m", one(m.prop()), one(m.prop()))
	}
	n := node(api.ExportFrom, "", one(m.id()))
	if m.Intn(2) == 0 {
		n.Kids = append(n.Kids, one(m.id()))
	}
	n.N = m.Intn(2)
	return n
}

func (m maker) item(deep int) api.Node {
	alias := node(api.Alias, m.id(), m.typ(deep-2))
	switch m.Intn(7) {
	case 0:
		return m.class(deep)
	case 1:
		return alias
	case 2, 3:
		return m.imported()
	case 4:
		return m.exported()
	case 5:
		l := []api.Node{m.let(deep - 1), m.function(deep - 1), m.class(deep - 1), alias}
		return node(api.Export, "", l[m.Intn(4)])
	}
	l := []api.Node{m.expr(deep - 1), m.function(deep - 1), m.class(deep - 1)}
	return node(api.Default, "", l[m.Intn(3)])
}

func (m maker) space() api.Node {
	return node(api.Space, m.id(), m.some(2, func() api.Node { return node(api.SpaceOne, m.prop(), m.name()) })...)
}

// made is a whole module or script, by that number.
func made(seed int64) api.Node {
	m := maker{rand.New(rand.NewSource(seed)), seed%3 == 0}
	deep := 3 + m.Intn(5)
	if m.script {
		return node(api.Script, "", m.some(6, func() api.Node {
			l := []api.Node{m.stmt(deep), m.stmt(deep), m.class(deep), m.space()}
			return l[m.Intn(4)]
		})...)
	}
	return node(api.Module, "", m.some(6, func() api.Node {
		l := []api.Node{m.stmt(deep), m.item(deep), m.item(deep)}
		return l[m.Intn(3)]
	})...)
}

// mended is a tree without the error at a place: a name that is new, or something else in its stead.
func mended(n api.Node, at, step int) api.Node {
	m := maker{rand.New(rand.NewSource(int64(step))), false}
	v := viewOf(n)
	tree := v.trees[at]
	fresh := fmt.Sprint("x", step)
	other := []api.Node{{Kind: api.Num, N: 7}, node(api.Name, "print"), m.name()}[m.Intn(3)]
	switch {
	case v.kind(v.up[at]) == api.SpaceOne:
		return swapped(n, at, node(api.Name, m.one(m.id(), "read", "a$1")))
	case tree.Kind == api.Name && v.kind(v.up[at]) == api.Assign && v.up[at]+1 == at:
		return swapped(n, v.up[at], other)
	case tree.Kind == api.Name, tree.Kind == api.New, tree.Kind == api.This, tree.Kind == api.Assign:
		return swapped(n, at, other)
	case tree.Kind == api.Return:
		return swapped(n, at, node(api.Expr, "", tree.Kids...))
	case tree.Kind == api.TypeName:
		return swapped(n, at, node(api.TypeName, m.one("any", "null", "T", "C")))
	case tree.Kind == api.Let, tree.Kind == api.Function, tree.Kind == api.Class, tree.Kind == api.Alias, tree.Kind == api.Space:
		tree.Text = fresh
		return swapped(n, at, tree)
	case tree.Kind == api.ImportOne:
		return swapped(n, at, node(api.ImportOne, tree.Text, node(api.Name, fresh)))
	}
	// An export: there is nothing that could stand in its place but another item.
	item := at
	for v.up[item] > 0 {
		item = v.up[item]
	}
	return swapped(n, item, node(api.Expr, "", other))
}

// swapped is a tree with another one at a place.
func swapped(n api.Node, at int, other api.Node) api.Node {
	place := -1
	var walk func(n api.Node) api.Node
	walk = func(n api.Node) api.Node {
		place++
		c := api.Node{Kind: n.Kind, Text: n.Text, N: n.N}
		here := place == at
		for _, k := range n.Kids {
			c.Kids = append(c.Kids, walk(k))
		}
		if here {
			return other
		}
		return c
	}
	return walk(n)
}

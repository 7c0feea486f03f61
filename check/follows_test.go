package check

import (
	"fmt"
	"math/rand"
	"testing"

	"gusset/api"
	"gusset/link"
	"gusset/sign"
	"gusset/tree"
	"gusset/types"
)

// renamed is a module whose local names are renamed apart: each declaration has a name that stands nowhere else.
func renamed(l api.Linked, mod int) api.Node {
	names := map[int]string{}
	for _, u := range l.Scopes[mod].Uses {
		if u.Kind == api.UseLocal {
			names[u.Decl] = fmt.Sprintf("%sr%d", u.Name, u.Decl)
			names[u.At] = names[u.Decl]
		}
	}
	at := 0
	var rename func(n api.Node) api.Node
	rename = func(n api.Node) api.Node {
		if name, ok := names[at]; ok {
			n.Text = name
		}
		at++
		kids := make([]api.Node, len(n.Kids))
		for i, kid := range n.Kids {
			kids[i] = rename(kid)
		}
		n.Kids = kids
		return n
	}
	return rename(l.Graph.Mods[mod].Tree)
}

// relinked is a graph with another tree in a module's place, linked and signed anew, if it can be.
func relinked(l api.Linked, mod int, n api.Node) (api.Linked, api.Signs, api.Errno) {
	g := api.Graph{Mods: append([]api.Mod{}, l.Graph.Mods...)}
	g.Mods[mod].Tree = n
	other, _, _, err := link.Link(g)
	if err != api.OK {
		return api.Linked{}, api.Signs{}, err
	}
	s, _, err := sign.Sign(other)
	return other, s, err
}

// 18.3: local names play no part.
func TestRenamed(t *testing.T) {
	t.Parallel()
	changed := 0
	for seed := range int64(600) {
		l, s, sources, ok := made(t, seed)
		if !ok {
			continue
		}
		mod, at, err := Check(l, s)
		for other := range l.Graph.Mods {
			n := renamed(l, other)
			if !tree.Same(n, l.Graph.Mods[other].Tree) {
				changed++
			}
			l2, s2, linkErr := relinked(l, other, n)
			if linkErr != api.OK {
				t.Fatalf("%q: the error %d", sources, linkErr)
			}
			if mod2, at2, err2 := Check(l2, s2); mod2 != mod || at2 != at || err2 != err {
				t.Fatalf("%q: %d %d %d; renamed %d %d %d", sources, mod, at, err, mod2, at2, err2)
			}
		}
	}
	if changed < 500 {
		t.Error(changed)
	}
}

// instead is an expression of a type; nothing, if none is known.
func instead(t api.Type) (api.Node, bool) {
	switch t.Kind {
	case api.TypeAny:
		return api.Node{Kind: api.Index, Kids: []api.Node{{Kind: api.Array}, {Kind: api.Num}}}, true
	case api.TypeNumber:
		return api.Node{Kind: api.Unary, Text: "-", Kids: []api.Node{{Kind: api.Num, N: 1}}}, true
	case api.TypeString:
		return api.Node{Kind: api.Text, Text: "t"}, true
	case api.TypeBoolean:
		return api.Node{Kind: api.Unary, Text: "!", Kids: []api.Node{{Kind: api.Null}}}, true
	case api.TypeNull:
		return api.Node{Kind: api.Null}, true
	}
	return api.Node{}, false
}

// 18.3: what is well typed stays so with an expression of its type in the place of a Name; names of which a condition tells something are left where they are, for others are narrowed by them.
func TestInstead(t *testing.T) {
	t.Parallel()
	replaced := 0
	for seed := range int64(400) {
		l, s, sources, ok := made(t, seed)
		if _, _, err := Check(l, s); !ok || err != api.OK {
			continue
		}
		rng := rand.New(rand.NewSource(seed))
		mod := rng.Intn(len(l.Graph.Mods))
		m := newModel(l, s, mod, map[string]int{})
		for at, n := range m.nodes {
			if n.Kind != api.Name || !m.isExpression(at) || m.nodes[m.around[at]].Kind == api.Assign && m.number[at] == 0 || m.inCondition(at) {
				continue
			}
			was, err := TypeOf(l, s, mod, at)
			if err != api.OK {
				t.Fatal(err)
			}
			other, ok := instead(was)
			if !ok || rng.Intn(3) > 0 {
				continue
			}
			n, _ := tree.Replace(l.Graph.Mods[mod].Tree, at, other)
			l2, s2, err := relinked(l, mod, n)
			if err != api.OK {
				t.Fatalf("%q: the error %d", sources, err)
			}
			if mod2, at2, err2 := Check(l2, s2); err2 != api.OK {
				t.Fatalf("%q: the place %d: %d %s, the error %d", sources, at, mod2, textAt(l2, mod2, at2), err2)
			}
			if is, err := TypeOf(l2, s2, mod, at); err != api.OK || types.Compare(is, was) != 0 {
				t.Fatalf("%q: the place %d: %s, %d", sources, at, types.Show(is), err)
			}
			replaced++
		}
	}
	if replaced < 500 {
		t.Error(replaced)
	}
}

// inCondition tells whether something stands where facts may come from.
func (m *model) inCondition(at int) bool {
	for ; m.around[at] >= 0; at = m.around[at] {
		n := m.nodes[m.around[at]]
		if m.number[at] == 0 && (n.Kind == api.If || n.Kind == api.While || n.Kind == api.Cond || n.Kind == api.Binary && (n.Text == "&&" || n.Text == "||")) {
			return true
		}
	}
	return false
}

// 18.3: a module hangs on its own tree, and on the Signs of what its imports lead to, alone.
func TestModulesApart(t *testing.T) {
	t.Parallel()
	others := 0
	for seed := range int64(400) {
		l, s, sources, ok := made(t, seed)
		if !ok || len(l.Graph.Mods) < 2 {
			continue
		}
		mod, at, err := Check(l, s)
		if err == api.OK {
			continue
		}
		// All other modules keep what they declare, and nothing else.
		g := api.Graph{Mods: append([]api.Mod{}, l.Graph.Mods...)}
		for i := range g.Mods {
			if i != mod {
				g.Mods[i].Tree = declarations(g.Mods[i].Tree)
			}
		}
		l2, s2 := linkedGraph(t, g)
		if mod2, at2, err2 := Check(l2, s2); mod2 != mod || at2 != at || err2 != err {
			t.Fatalf("%q: %d %d %d; alone %d %d %d", sources, mod, at, err, mod2, at2, err2)
		}
		others++
	}
	if others < 50 {
		t.Error(others)
	}
}

// declarations is a module in which nothing is done, though all is declared as it was, at other places.
func declarations(n api.Node) api.Node {
	anything, _ := instead(api.Type{Kind: api.TypeAny})
	var items []api.Node
	for _, item := range n.Kids {
		switch item.Kind {
		case api.Expr, api.If, api.While, api.Block, api.Throw:
			item = api.Node{Kind: api.Block}
		case api.Export:
			item.Kids = []api.Node{item.Kids[0]}
			if held := &item.Kids[0]; held.Kind == api.Let {
				held.Kids = []api.Node{held.Kids[0], anything}
			}
		}
		items = append(items, emptied(item))
	}
	return api.Node{Kind: n.Kind, Kids: items}
}

// emptied is a tree whose functions do nothing, and whose fields are any.
func emptied(n api.Node) api.Node {
	anything, _ := instead(api.Type{Kind: api.TypeAny})
	switch n.Kind {
	case api.Block:
		return api.Node{Kind: api.Block}
	case api.Field, api.Let:
		n.Kids = []api.Node{n.Kids[0], anything}
		return n
	case api.Default:
		if tree.Form(n.Kids[0]) == api.FormExpr {
			n.Kids = []api.Node{anything}
			return n
		}
	}
	kids := make([]api.Node, len(n.Kids))
	for i, kid := range n.Kids {
		kids[i] = emptied(kid)
	}
	n.Kids = kids
	return n
}

package rename

import (
	"fmt"
	"strings"
	"testing"

	"gusset/api"
	"gusset/exports"
	"gusset/link"
	"gusset/show"
	"gusset/tree"
)

// A spot is a tree of a module, and the place of the tree around it (-1 of the whole).
type spot struct {
	node   api.Node
	around int
}

func spotsOf(module api.Node) []spot {
	var l []spot
	var walk func(n api.Node, around int)
	walk = func(n api.Node, around int) {
		at := len(l)
		l = append(l, spot{n, around})
		for _, k := range n.Kids {
			walk(k, at)
		}
	}
	walk(module, -1)
	return l
}

// nameOf is what stands in a script for what was found.
func nameOf(f api.Found) string {
	if f.Kind == api.FoundSpace {
		return fmt.Sprintf("$%d", f.Mod)
	}
	return fmt.Sprintf("%s$%d", f.Name, f.Mod)
}

// A model is 21.2 word for word: from each value use outwards, then from the item inwards.
type model struct {
	names map[int]string // by the places of longest ways, and of other value uses
	base  map[int]string // by the places of all value uses, what they begin
	met   map[string]int
}

func modelOf(l api.Linked, mod int, met map[string]int) model {
	m := model{map[int]string{}, map[int]string{}, met}
	spots := spotsOf(l.Graph.Mods[mod].Tree)
	for _, u := range l.Scopes[mod].Uses {
		here := spots[u.At].node.Kind
		if u.Type || here == api.ExportOne || u.Kind != api.UseTop && u.Kind != api.UseImport {
			continue
		}
		f, at, long := link.Target(l, mod, u), u.At, 0
		for here == api.Name && f.Kind == api.FoundSpace {
			out := spots[at].around
			there := exports.Resolve(l.Entries, f.Mod, spots[out].node.Text)
			if spots[out].node.Kind != api.Member || !link.Value(l, there) {
				break
			}
			f, at, long = there, out, long+1
		}
		m.names[at], m.base[u.At] = nameOf(f), nameOf(f)
		met[fmt.Sprint("long ", min(long, 4), " ", f.Kind)]++
		met[fmt.Sprint("use ", u.Kind, " ", here)]++
	}
	return m
}

// build is the image of the tree at a place; types, and what holds the item, are the caller's.
func (m model) build(n api.Node, at int) api.Node {
	if name, is := m.names[at]; is && n.Kind != api.New {
		return api.Node{Kind: api.Name, Text: name}
	}
	out := api.Node{Kind: n.Kind, Text: n.Text, N: n.N}
	if name, is := m.names[at]; is {
		out.Text = name
	}
	typed := map[int]int{api.Let: 0, api.Param: 0, api.Field: 0, api.Func: 1, api.Function: 1, api.Method: 1}
	next := at + 1
	for i, k := range n.Kids {
		if place, has := typed[n.Kind]; has && place == i {
			m.met[fmt.Sprint("type ", n.Kind, " ", k.Kind != api.None)]++
			out.Kids = append(out.Kids, api.Node{Kind: api.None})
		} else {
			out.Kids = append(out.Kids, m.build(k, next))
		}
		next += tree.Size(k)
	}
	return out
}

// image is that of the item at a place.
func (m model) image(n api.Node, at, mod int) (api.Node, bool) {
	top := func(name string) string { return fmt.Sprintf("%s$%d", name, mod) }
	m.met[fmt.Sprint("item ", n.Kind)]++
	switch n.Kind {
	case api.Import, api.ExportFrom, api.Alias:
		return api.Node{}, false
	case api.Export:
		m.met[fmt.Sprint("export ", n.Kids[0].Kind)]++
		return m.image(n.Kids[0], at+1, mod)
	case api.Default:
		if k := n.Kids[0].Kind; k == api.Function || k == api.Class {
			m.met[fmt.Sprint("default ", k)]++
			return m.image(n.Kids[0], at+1, mod)
		}
		return api.Node{Kind: api.Let, Text: top("default"), N: 1, Kids: []api.Node{{Kind: api.None}, m.build(n.Kids[0], at+1)}}, true
	}
	n = m.build(n, at)
	switch n.Kind {
	case api.Let, api.Function, api.Class:
		n.Text = top(n.Text)
	}
	return n, true
}

// 21.2: modules that are made by chance, each item of them.
func TestMade(t *testing.T) {
	t.Parallel()
	met := map[string]int{}
	for seed := range int64(2500) {
		sources, l := made(t, seed, true)
		for mod, one := range l.Graph.Mods {
			m := modelOf(l, mod, met)
			at := 1
			for item, n := range one.Tree.Kids {
				want, is := m.image(n, at, mod)
				at += tree.Size(n)
				got, ok := Item(l, mod, item)
				if ok != is || !tree.Same(got, want) {
					t.Fatalf("seed %d: %q: the item %d of %d: %t %s, want %t %s", seed, sources, item, mod, ok, show.Show(got), is, show.Show(want))
				}
				if form := tree.Form(got); ok && form != api.FormStmt && form != api.FormItem {
					t.Fatalf("seed %d: %q: the item %d of %d has the form %d", seed, sources, item, mod, form)
				}
			}
		}
	}
	for what, often := range map[string]int{
		"long 0 1": 500, "long 0 2": 500, "long 1 1": 500, "long 1 2": 500, "long 2 1": 500, "long 2 2": 500, "long 3 1": 200, "long 4 1": 40, "long 4 2": 40,
		"use 3 6": 500, "use 3 20": 200, "use 4 6": 500, "use 4 20": 200,
		"type 11 true": 200, "type 11 false": 200, "type 13 true": 500, "type 13 false": 500, "type 40 true": 500, "type 40 false": 500, "type 41 true": 500, "type 41 false": 500, "type 43 true": 500, "type 43 false": 500, "type 45 true": 500, "type 45 false": 500,
		"item 40": 500, "item 41": 500, "item 42": 500, "item 46": 500, "item 47": 500, "item 48": 500, "item 49": 500, "item 51": 500, "item 52": 500, "item 60": 500, "item 62": 500, "item 63": 500, "item 64": 500,
		"export 40": 500, "export 41": 500, "export 42": 500, "export 46": 500, "default 41": 200, "default 42": 200,
	} {
		if met[what] < often {
			t.Errorf("%s: %d times", what, met[what])
		}
	}
	if t.Failed() {
		t.Log(met)
	}
}

// typesOf are the places of types in a tree, and of names with a $ that declare or take what is local.
func typesOf(n api.Node) (types int, marked []string) {
	for at, part := range tree.All(n) {
		switch part.Kind {
		case api.TypeName, api.TypeArray, api.TypeUnion, api.TypeObject, api.TypeProp, api.TypeFunc:
			types++
		case api.Let, api.Function, api.Param, api.Prop, api.Field, api.Method, api.Member:
			if at > 0 && strings.Contains(part.Text, "$") {
				marked = append(marked, part.Text)
			}
		}
	}
	return types, marked
}

// 21.2, 21.3: no type is left, and but for the top that it declares nothing that an image declares has a $.
func TestMadeLeavings(t *testing.T) {
	t.Parallel()
	images := 0
	for seed := range int64(300) {
		sources, l := made(t, seed, true)
		for mod, one := range l.Graph.Mods {
			for item := range one.Tree.Kids {
				n, ok := Item(l, mod, item)
				if !ok {
					continue
				}
				images++
				if types, marked := typesOf(n); types > 0 || len(marked) > 0 {
					t.Fatalf("seed %d: %q: the item %d of %d: %d types, %q in %s", seed, sources, item, mod, types, marked, show.Show(n))
				}
			}
		}
	}
	if images < 1000 {
		t.Error(images)
	}
}

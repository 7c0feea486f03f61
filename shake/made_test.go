package shake

import (
	"fmt"
	"slices"
	"testing"

	"gusset/api"
	"gusset/exports"
	"gusset/link"
	"gusset/pure"
)

// A model is the chapter word for word, of one linked graph.
type model struct {
	l         api.Linked
	evaluated []int
	items     map[api.Origin]bool // those that are needed
	spaces    map[int]bool        // the modules whose namespaces are
	changed   bool
}

// evaluate tells a module behind all that it asks for, and that was not met yet.
func (m *model) evaluate(mod int, met map[int]bool) {
	if met[mod] {
		return
	}
	met[mod] = true
	for _, r := range m.l.Graph.Mods[mod].Requests {
		if !r.Type {
			m.evaluate(r.Target, met)
		}
	}
	m.evaluated = append(m.evaluated, mod)
}

// declaring is the item that declares a name, by the trees.
func (m *model) declaring(f api.Found) api.Origin {
	for item, n := range m.l.Graph.Mods[f.Mod].Tree.Kids {
		name := "default"
		switch n.Kind {
		case api.Export:
			name = n.Kids[0].Text
		case api.Default:
			if kind := n.Kids[0].Kind; kind == api.Function || kind == api.Class {
				name = n.Kids[0].Text
			}
		case api.Let, api.Function, api.Class, api.Alias:
			name = n.Text
		default:
			continue
		}
		if name == f.Name {
			return api.Origin{Mod: f.Mod, Item: item}
		}
	}
	return api.Origin{Mod: -1}
}

func (m *model) image(o api.Origin) bool {
	n := m.l.Graph.Mods[o.Mod].Tree.Kids[o.Item]
	switch n.Kind {
	case api.Import, api.ExportFrom, api.Alias:
		return false
	case api.Export:
		return n.Kids[0].Kind != api.Alias
	}
	return true
}

func (m *model) inOrder(is func(api.Origin) bool) []api.Origin {
	var l []api.Origin
	for _, mod := range m.evaluated {
		for item := range m.l.Graph.Mods[mod].Tree.Kids {
			if o := (api.Origin{Mod: mod, Item: item}); is(o) {
				l = append(l, o)
			}
		}
	}
	return l
}

// given is what the names of a module lead to as values.
func (m *model) given(mod int) []api.Found {
	var l []api.Found
	for _, name := range exports.Names(m.l.Entries, mod) {
		if f := exports.Resolve(m.l.Entries, mod, name); link.Value(m.l, f) {
			l = append(l, f)
		}
	}
	return l
}

func (m *model) roots() []api.Origin {
	return m.inOrder(func(o api.Origin) bool {
		if m.image(o) && !pure.Item(m.l.Graph.Mods[o.Mod].Tree.Kids[o.Item]) {
			return true
		}
		return slices.ContainsFunc(m.given(0), func(f api.Found) bool { return f.Kind == api.FoundOne && m.declaring(f) == o })
	})
}

func (m *model) need(f api.Found) {
	switch f.Kind {
	case api.FoundOne:
		o := m.declaring(f)
		m.changed = m.changed || !m.items[o]
		m.items[o] = true
	case api.FoundSpace:
		m.changed = m.changed || !m.spaces[f.Mod]
		m.spaces[f.Mod] = true
	}
}

// grow adds what is needed for what is needed by now, once over all.
func (m *model) grow() {
	for o := range m.items {
		for _, f := range pure.Mentions(m.l, o.Mod, o.Item) {
			if f.Kind == api.FoundOne {
				m.need(f)
			}
		}
		for _, mod := range pure.Values(m.l, o.Mod, o.Item) {
			m.need(api.Found{Kind: api.FoundSpace, Mod: mod})
		}
	}
	for mod := range m.spaces {
		for _, f := range m.given(mod) {
			m.need(f)
		}
	}
}

func newModel(l api.Linked) *model {
	m := &model{l: l, items: map[api.Origin]bool{}, spaces: map[int]bool{}}
	m.evaluate(0, map[int]bool{})
	for _, o := range m.roots() {
		m.items[o] = true
	}
	for _, f := range m.given(0) {
		if f.Kind == api.FoundSpace {
			m.spaces[f.Mod] = true
		}
	}
	for m.changed = true; m.changed; {
		m.changed = false
		m.grow()
	}
	return m
}

func (m *model) keep() []api.Origin {
	return m.inOrder(func(o api.Origin) bool { return m.items[o] && m.image(o) })
}

func (m *model) spacesInOrder() []int {
	var l []int
	for mod := range m.l.Graph.Mods {
		if m.spaces[mod] {
			l = append(l, mod)
		}
	}
	return l
}

// 20.1, 20.2: modules that are made by chance.
func TestMade(t *testing.T) {
	t.Parallel()
	met := map[string]int{}
	for _, made := range made(t, 6000) {
		l := made.linked
		m := newModel(l)
		if got, want := Roots(l), m.roots(); !slices.Equal(got, want) {
			t.Fatalf("%q: the roots %s, want %s", made.sources, told(got), told(want))
		}
		keep := Keep(l)
		if want := m.keep(); !slices.Equal(keep, want) {
			t.Fatalf("%q: kept %s, want %s", made.sources, told(keep), told(want))
		}
		if got, want := Spaces(l), m.spacesInOrder(); !slices.Equal(got, want) {
			t.Fatalf("%q: the namespaces %v, want %v", made.sources, got, want)
		}
		count(met, m, keep)
	}
	for what, often := range map[string]int{
		"modules 1": 100, "modules 4": 200, "evaluated 1": 100, "evaluated 4": 200, "not evaluated 0": 1000, "not evaluated 1": 100, "not evaluated 2": 20,
		"roots 0": 50, "roots 1": 200, "roots 4": 500, "found 0": 300, "found 1": 200, "found 4": 500, "left out 0": 300, "left out 4": 500,
		"namespaces 0": 500, "namespaces 1": 500, "namespaces 2": 300, "namespaces 3": 100, "not by numbers": 300,
	} {
		if met[what] < often {
			t.Errorf("%s: %d times", what, met[what])
		}
	}
	if t.Failed() {
		t.Log(met)
	}
}

// count counts what was met.
func count(met map[string]int, m *model, keep []api.Origin) {
	mods, roots := len(m.l.Graph.Mods), len(m.roots())
	all := len(m.inOrder(m.image))
	for what, number := range map[string]int{
		"modules": mods, "evaluated": len(m.evaluated), "not evaluated": mods - len(m.evaluated), "roots": roots,
		"found": len(keep) - roots, "left out": all - len(keep), "namespaces": len(m.spaces),
	} {
		met[fmt.Sprint(what, " ", min(number, 4))]++
	}
	if !slices.IsSortedFunc(keep, func(a, b api.Origin) int { return b.Mod - a.Mod }) {
		met["not by numbers"]++
	}
}

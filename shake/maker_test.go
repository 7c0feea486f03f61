package shake

import (
	"fmt"
	"math/rand"
	"strings"
	"testing"

	"gusset/api"
	"gusset/graph"
	"gusset/link"
	"gusset/vfs"
)

// A plan is what a module declares, and what it exports of that, by what it is thought to be.
type plan struct {
	items, declared       []string
	values, types, spaces []string
	hasDefault            bool
}

// A maker makes modules by chance, most items of which do nothing but mention others.
type maker struct {
	*rand.Rand
	plans []plan
	open  [][]int  // of each module those that it may ask for more than their types
	most  int      // of what a module declares and imports
	names []string // what may be mentioned in the module that is made
}

func (m *maker) pick(l ...string) string { return l[m.Intn(len(l))] }

func (m *maker) chance(percent int) bool { return m.Intn(100) < percent }

// path is that of some module that another one may ask; its plan comes with it.
func (m *maker) path(mod int) (*plan, string) {
	other := m.open[mod][m.Intn(len(m.open[mod]))]
	return &m.plans[other], pathOf(other)
}

func pathOf(mod int) string { return fmt.Sprintf("'./%c'", 'a'+mod) }

// forms are what is declared: ? is its name, # what is mentioned. The last ones are evaluated to more than nothing.
func forms() []string {
	return []string{
		"const ? = [1];", "let ? = () => [#, #];", "const ? = { k: function (p) { let a = #; return #; } };",
		"function ?() { return #; }", "function ?(b) { #; { const c = #; } }", "class ? { k = #; constructor(p) { #; } m() { return #; } }", "class ? { }",
		"type ? = number;", "function ?() { }", "let ? = !0;", "const ? = #;", "let ? = 1 + 2;", "const ? = [() => #, #];",
	}
}

// declare adds a name of the module's own, and an export of it or none.
func (m *maker) declare(p *plan, name string) {
	all := forms()
	form := all[m.Intn(len(all))]
	if !m.chance(25) {
		form = all[m.Intn(len(all)-3)]
	}
	list, item := &p.values, strings.ReplaceAll(form, "?", name)
	if strings.HasPrefix(form, "type") {
		list = &p.types
	} else {
		p.declared = append(p.declared, name)
	}
	switch m.Intn(6) {
	case 0, 1:
		p.items = append(p.items, "export "+item)
		*list = append(*list, name)
		return
	case 2:
		p.items = append(p.items, "export { "+name+" };")
		*list = append(*list, name)
	case 3:
		p.items = append(p.items, "export { "+name+" as "+name+"2 };")
		*list = append(*list, name+"2")
	case 4:
		if strings.HasPrefix(form, "class") {
			p.items = append(p.items, "export type { "+name+" };")
			p.types = append(p.types, name)
		}
	}
	p.items = append(p.items, item)
}

func (m *maker) own() plan {
	var p plan
	for _, name := range []string{"a", "b", "c", "d", "e", "f"}[:m.most] {
		m.declare(&p, name)
	}
	if m.chance(40) {
		p.items = append(p.items, "export default "+m.pick("() => #;", "7;", "[#];", "function g() { #; }", "class g { k = #; }"))
		p.values, p.hasDefault = append(p.values, "default"), true
	}
	return p
}

// others are the exports that lead to other modules; only those to own names of others can lead in no circle.
func (m *maker) others(mod int) []string {
	var l []string
	p := &m.plans[mod]
	for _, name := range []string{"m", "o"} {
		if m.chance(25) {
			_, path := m.path(mod)
			l = append(l, m.pick("export * as "+name+" from "+path+";", "import * as x"+name+" from "+path+"; export { x"+name+" as "+name+" };"))
			p.spaces = append(p.spaces, name)
		}
	}
	for m.chance(35) {
		_, path := m.path(mod)
		l = append(l, "export * from "+path+";")
	}
	if other, path := m.path(mod); len(other.values) > 0 && m.chance(30) {
		l = append(l, "export { "+m.pick(other.values...)+" as z } from "+path+";")
	}
	return l
}

// imports add to what may be mentioned.
func (m *maker) imports(mod int) []string {
	var l []string
	for i := range m.Intn(m.most + 1) {
		name := fmt.Sprintf("i%d", i)
		other, path := m.path(mod)
		switch kind := m.Intn(8); {
		case kind == 0:
			l = append(l, "import "+path+";")
		case kind == 1:
			l = append(l, "import * as "+name+" from "+path+";")
			m.names = append(m.names, name, name+".", name+".", name+".")
		case kind == 2 && len(other.spaces) > 0:
			l = append(l, "import { "+m.pick(other.spaces...)+" as "+name+" } from "+path+";")
			m.names = append(m.names, name, name+".")
		case kind == 3 && other.hasDefault:
			l = append(l, "import "+name+" from "+path+";")
			m.names = append(m.names, name)
		case kind <= 5:
			l = append(l, m.typeImport(name)...)
		case len(other.values) > 0:
			l = append(l, "import { "+m.pick(other.values...)+" as "+name+" } from "+path+";")
			m.names = append(m.names, name)
		}
	}
	return l
}

// typeImport asks any module for a type, alone mostly.
func (m *maker) typeImport(name string) []string {
	other := m.Intn(len(m.plans))
	types := m.plans[other].types
	if len(types) == 0 {
		return nil
	}
	return []string{m.pick("import type", "import type", "import") + " { " + m.pick(types...) + " as " + name + " } from " + pathOf(other) + "; let u" + name + ": " + name + "[] = [];"}
}

// mention is a name, or a way; where there is no name to be had it is a number.
func (m *maker) mention() string {
	s := m.pick(m.names...)
	for strings.HasSuffix(s, ".") {
		s += m.pick("a", "b", "c", "d2", "e", "f", "z", "default", "m", "o", "m.", "o.", "nope")
	}
	return s
}

func (m *maker) statement() string {
	return m.pick("print(#);", "(#);", "if (false) { #; }", "while (false) { #; }", "{ let a = #; }", "() => #;", "print(1);")
}

func (m *maker) source(mod int) string {
	p := &m.plans[mod]
	m.names = append([]string{"1", "print"}, p.declared...)
	items := append(m.imports(mod), p.items...)
	for m.chance(35) {
		items = append(items, m.statement())
	}
	m.Shuffle(len(items), func(i, j int) { items[i], items[j] = items[j], items[i] })
	source := strings.Join(items, " ")
	for strings.Contains(source, "#") {
		source = strings.Replace(source, "#", m.mention(), 1)
	}
	return source
}

// sources are those of some modules, of which the first asks for some of the others.
func (m *maker) sources() []string {
	m.plans, m.most = make([]plan, 2+m.Intn(4)), 1+m.Intn(6)
	m.open = make([][]int, len(m.plans))
	for mod := range m.plans {
		m.plans[mod] = m.own()
		m.open[mod] = m.Perm(len(m.plans))[:1+m.Intn(len(m.plans))]
	}
	for mod := range m.plans {
		m.plans[mod].items = append(m.plans[mod].items, m.others(mod)...)
	}
	var l []string
	for mod := range m.plans {
		l = append(l, m.source(mod))
	}
	return l
}

// A making is modules made of one seed.
type making struct {
	sources []string
	linked  api.Linked
}

// made are those of the next seeds that can be linked.
func made(t *testing.T, seeds int64) []making {
	t.Helper()
	var l []making
	for seed := range seeds {
		sources := (&maker{Rand: rand.New(rand.NewSource(seed))}).sources()
		if one, _, _, err := link.Link(loaded(t, sources...)); err == api.OK {
			l = append(l, making{sources, one})
		}
	}
	if len(l) < int(seeds)*7/10 {
		t.Fatalf("only %d of %d can be linked", len(l), seeds)
	}
	return l
}

// relinked are the modules of a table, linked.
func relinked(t *testing.T, files *vfs.Table) api.Linked {
	t.Helper()
	g, path, name, err := graph.Load(files, "/a")
	if err != api.OK {
		t.Fatal(path, name, err)
	}
	l, mod, name, err := link.Link(g)
	if err != api.OK {
		t.Fatal(mod, name, err)
	}
	return l
}

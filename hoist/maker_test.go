package hoist

import (
	"fmt"
	"math/rand"
	"strings"
	"testing"

	"gusset/api"
	"gusset/check"
	"gusset/link"
	"gusset/sign"
)

// A given is a name under which something can be had, and the module whose namespace that is (-1 of all else).
type given struct {
	name  string
	space int
}

// A plan is what a module declares, and what it exports of that and of others.
type plan struct {
	items         []string
	values, types []given
	own           []given // the values that it declares
}

// A maker makes modules by chance.
type maker struct {
	*rand.Rand
	plans []plan
	shut  int      // a module of which the others ask for types alone; 0, if there is none
	names []given  // the values that can be had in the module that is made
	words []string // the classes
	kinds []string // the types
}

func (m *maker) pick(l ...string) string { return l[m.Intn(len(l))] }

func (m *maker) chance(percent int) bool { return m.Intn(100) < percent }

func (m *maker) given(l []given) given { return l[m.Intn(len(l))] }

func pathOf(mod int) string { return fmt.Sprintf("'./%c'", 'a'+mod) }

// module is one that may be asked for more than types.
func (m *maker) module() (int, string) {
	mod := m.Intn(len(m.plans))
	if mod == m.shut {
		mod = 0
	}
	return mod, pathOf(mod)
}

// forms are those of what is declared: ? is its name, # an expression, @ a type or nothing, ! what an alias says.
func forms() []string {
	return []string{
		"let ?: any = #;", "const ?: any = [#];", "const ?: any = () => #;", "let ?: any = 1;",
		"function ?(p@) { return #; }", "function ?(n) { let x@ = #; { const f = #; return [f, n, x]; } }",
		"class ? { k@ = #; constructor(x@) { this.k; #; } m(n) { return #; } }", "class ? { constructor(p) { } }",
		"type ? = !;",
	}
}

// declare adds a name of the module's own, and the exports of it.
func (m *maker) declare(mod int, name string) {
	p := &m.plans[mod]
	all := forms()
	form := all[m.Intn(len(all))]
	item := strings.ReplaceAll(form, "?", name)
	list := &p.values
	if strings.HasPrefix(form, "type") {
		list = &p.types
	} else {
		p.own = append(p.own, given{name, -1})
	}
	switch m.Intn(6) {
	case 0, 1, 2:
		p.items = append(p.items, "export "+item)
		*list = append(*list, given{name, -1})
		if strings.HasPrefix(form, "class") {
			p.types = append(p.types, given{name, -1})
		}
		return
	case 3:
		p.items = append(p.items, "export { "+name+" };")
		*list = append(*list, given{name, -1})
	case 4:
		p.items = append(p.items, "export { "+name+" as "+name+"2, "+name+" as "+name+"3 };")
		*list = append(*list, given{name + "2", -1}, given{name + "3", -1})
	}
	p.items = append(p.items, item)
}

func (m *maker) own(mod int) {
	for _, name := range []string{"a", "b", "x", "n", "f"}[:m.Intn(6)] {
		m.declare(mod, name)
	}
	p := &m.plans[mod]
	if mod == m.shut && m.chance(80) {
		p.items = append(p.items, "export type S = !;")
		p.types = append(p.types, given{"S", -1})
	}
	if m.chance(40) {
		p.items = append(p.items, "export default "+m.pick("() => #;", "(#);", "[#];", "function e(q) { return #; }", "class e { k = #; constructor(q) { } }"))
		p.values = append(p.values, given{"default", -1})
	}
}

// others adds exports that lead to other modules.
func (m *maker) others(mod int) {
	p := &m.plans[mod]
	for _, name := range []string{"m", "o"} {
		if other, path := m.module(); m.chance(35) {
			p.items = append(p.items, m.pick("export * as "+name+" from "+path+";", "import * as s"+name+" from "+path+"; export { s"+name+" as "+name+" };"))
			p.values = append(p.values, given{name, other})
		}
	}
	for m.chance(35) {
		_, path := m.module()
		p.items = append(p.items, "export * from "+path+";")
	}
	// The first of the other's values is one of its own: those of others could lead in a circle.
	if other, path := m.module(); other != mod && len(m.plans[other].own) > 0 && len(m.plans[other].values) > 0 && m.chance(40) {
		p.items = append(p.items, "export { "+m.plans[other].values[0].name+" as z } from "+path+";")
		p.values = append(p.values, given{"z", m.plans[other].values[0].space})
	}
}

// imports adds to what can be had.
func (m *maker) imports(mod int) []string {
	var l []string
	if next := (mod + 1) % len(m.plans); next != m.shut && m.chance(50) {
		l = append(l, "import "+pathOf(next)+";")
	}
	for i := range m.Intn(5) {
		name := fmt.Sprintf("i%d", i)
		other, path := m.module()
		values := m.plans[other].values
		switch kind := m.Intn(10); {
		case kind < 3:
			l = append(l, "import * as "+name+" from "+path+";")
			m.names = append(m.names, given{name, other}, given{name, other})
		case kind < 5:
			l = append(l, m.typeImport(name)...)
		case kind == 5:
			l = append(l, "import "+path+";")
		case len(values) > 0:
			one := m.given(values)
			l = append(l, "import { "+one.name+" as "+name+" } from "+path+";")
			m.names = append(m.names, given{name, one.space})
		}
	}
	return l
}

// typeImport asks any module for a type, alone mostly.
func (m *maker) typeImport(name string) []string {
	other := m.shut
	if m.chance(50) {
		other = m.Intn(len(m.plans))
	}
	types := m.plans[other].types
	if len(types) == 0 {
		return nil
	}
	m.kinds = append(m.kinds, name)
	word := m.pick("import type", "import type", "import")
	if other == m.shut {
		word = "import type"
	}
	return []string{word + " { " + m.given(types).name + " as " + name + " } from " + pathOf(other) + ";"}
}

// way is a name that can be had, with members as far as it is a namespace.
func (m *maker) way() string {
	one := m.given(m.names)
	s := one.name
	for one.space >= 0 && len(m.plans[one.space].values) > 0 && m.chance(70) {
		if m.chance(2) {
			return s + "." + m.pick("nope", "T", "a", "f")
		}
		one = m.given(m.plans[one.space].values)
		s += "." + one.name
	}
	return s
}

func (m *maker) kind() string {
	k := m.pick(m.kinds...)
	return m.pick(k, k+"[]", k+" | null", "{ a: "+k+"; }", "(x: "+k+") => any")
}

func (m *maker) expr(deep int) string {
	if deep <= 0 || m.chance(30) {
		return m.way()
	}
	e := func() string { return m.expr(deep - 1) }
	switch m.Intn(14) {
	case 0:
		return "[" + e() + ", " + e() + "]"
	case 1:
		return "({ " + m.pick("x", "n", "k") + ": " + e() + ", print })"
	case 2:
		return "((" + m.pick("", "n", "x", "i0") + ") => " + e() + ")"
	case 3:
		return "(function (" + m.pick("", "f: any", "p") + ") { let " + m.pick("n", "x", "i1") + ": any = " + e() + "; return " + e() + "; })"
	case 4:
		return m.pick("!", "typeof ") + e()
	case 5:
		return "(" + e() + m.pick(" && ", " || ", " === ", " !== ") + e() + ")"
	case 6:
		return "(" + e() + " ? " + e() + " : " + e() + ")"
	case 7:
		if m.chance(15) {
			return m.way() + "(" + e() + ")"
		}
		return m.pick("print", "text") + "(" + e() + ")"
	case 8:
		// Of any, so that it may be called.
		return "[" + m.way() + ", [][0]][0](" + e() + ")"
	case 9:
		if len(m.words) > 0 {
			return "new " + m.pick(m.words...) + "(" + e() + ")"
		}
	case 10:
		return m.pick("["+e()+", [][0]][0].", "({ x: "+e()+", n: 1, length: 2 }).") + m.pick("length", "x", "n")
	case 11:
		return m.pick("1", "'t'", "null", "(2 + 3)")
	}
	return m.way()
}

func (m *maker) statement() string {
	return m.pick(
		"print(#);", "print(#);", "(#);", "if (#) { #; } else { let n = #; n; }", "while (false) { #; }", "() => #;",
		"{ let x: any = #; x = #; function f(n) { return [n, #]; } f(x); }", "if (false) { throw #; }", "let local@ = null;", "1;")
}

// filled puts expressions and types where the signs for them stand.
func (m *maker) filled(s string) string {
	for strings.Contains(s, "#") {
		s = strings.Replace(s, "#", m.expr(3), 1)
	}
	for strings.Contains(s, "@") {
		s = strings.Replace(s, "@", m.pick("", ": any", ": any", ": any | "+m.kind()), 1)
	}
	for strings.Contains(s, "!;") {
		s = strings.Replace(s, "!;", m.pick("number;", "string | null;", "any[];"), 1)
	}
	return s
}

func (m *maker) source(mod int) string {
	p := m.plans[mod]
	m.names = append([]given{{"print", -1}, {"text", -1}}, p.own...)
	m.words, m.kinds = nil, []string{"number", "string"}
	items := append(m.imports(mod), p.items...)
	for _, s := range p.items {
		if i := strings.Index(s, "class "); i >= 0 {
			m.words = append(m.words, s[i+6:i+7])
		}
	}
	local := false
	for m.chance(60) {
		s := m.statement()
		if strings.HasPrefix(s, "let local") {
			if local {
				continue
			}
			local = true
		}
		items = append(items, s)
	}
	m.Shuffle(len(items), func(i, j int) { items[i], items[j] = items[j], items[i] })
	return m.filled(strings.Join(items, " "))
}

func (m *maker) sources() []string {
	m.plans = make([]plan, 1+m.Intn(5))
	if m.chance(50) {
		m.shut = m.Intn(len(m.plans))
	}
	for mod := range m.plans {
		m.own(mod)
	}
	for mod := range m.plans {
		m.others(mod)
	}
	var l []string
	for mod := range m.plans {
		l = append(l, m.source(mod))
	}
	return l
}

// A making is modules made of one seed; typed, if types can be given to them.
type making struct {
	sources []string
	linked  api.Linked
	typed   bool
}

// made are those of the next seeds that can be linked.
func made(t *testing.T, seeds int64) []making {
	t.Helper()
	var l []making
	typed := 0
	for seed := range seeds {
		sources := (&maker{Rand: rand.New(rand.NewSource(seed))}).sources()
		one, _, _, err := link.Link(loaded(t, sources...))
		if err != api.OK {
			continue
		}
		l = append(l, making{sources, one, isTyped(one)})
		if l[len(l)-1].typed {
			typed++
		}
	}
	if int64(len(l)) < seeds*7/10 || int64(typed) < seeds/2 {
		t.Fatalf("of %d only %d can be linked, and to %d types can be given", seeds, len(l), typed)
	}
	return l
}

func isTyped(l api.Linked) bool {
	s, _, err := sign.Sign(l)
	if err != api.OK {
		return false
	}
	_, _, err = check.Check(l, s)
	return err == api.OK
}

package rename

import (
	"fmt"
	"math/rand"
	"strings"
	"testing"

	"gusset/api"
)

// A plan is what a module gives by itself: names of values, of namespaces and of types.
type plan struct {
	values, spaces, types []string
}

// A maker makes modules by chance that can be linked, full of types, of ways, and of names that are local here and tops there.
type maker struct {
	*rand.Rand
	spaceAssigned bool // whether members of namespaces may be assigned, which no bundle could do
	plans         []plan
	names         []string // the values of the module that is made
	spaces        []string // those that are namespaces
	words         []string // by which an object can be made
	types         []string
}

func (m *maker) pick(l ...string) string { return l[m.Intn(len(l))] }

func (m *maker) chance(percent int) bool { return m.Intn(100) < percent }

func (m *maker) module() (*plan, string) {
	other := m.Intn(len(m.plans))
	return &m.plans[other], fmt.Sprintf("'./%c'", 'a'+other)
}

// own are the items that declare a module's own names: # is an expression, @ a type or nothing, ! a type.
func (m *maker) own() ([]string, plan) {
	forms := []string{"let x@ = #;", "const y@ = #;", "function f(p@, n@)@ { !let; return #; }", "class C { a@ = #; n = #; constructor(q@) { #; } b(n@)@ { #; } }", "type T = !;"}
	var l []string
	p := plan{types: []string{"C"}}
	for i, name := range []string{"x", "y", "f", "C", "T"} {
		switch m.Intn(4) {
		case 0:
			l = append(l, forms[i])
			continue
		case 1:
			l = append(l, forms[i], "export { "+name+" };")
		default:
			l = append(l, "export "+forms[i])
		}
		if name == "T" {
			p.types = append(p.types, name)
		} else {
			p.values = append(p.values, name)
		}
	}
	if !strings.Contains(strings.Join(l, " "), "export class C") && !strings.Contains(strings.Join(l, " "), "export { C }") {
		l = append(l, "export type { C };")
	}
	if i := m.Intn(5); i < 4 {
		l = append(l, []string{"export default (#);", "export default function e(n@)@ { #; }", "export default class e { a@ = #; }", "export default (n@) => #;"}[i])
		p.values = append(p.values, "default")
	}
	return l, p
}

// others are the exports of namespaces and stars, which all modules may lead to.
func (m *maker) others(p *plan) []string {
	var l []string
	for _, name := range []string{"m", "o"} {
		if m.chance(60) {
			_, path := m.module()
			l = append(l, "export * as "+name+" from "+path+";")
			p.spaces = append(p.spaces, name)
		}
	}
	if m.chance(40) {
		_, path := m.module()
		l = append(l, "import * as s from "+path+";", m.pick("export { s as t };", "export { s as t, s as r };"))
		p.spaces = append(p.spaces, "t")
	}
	for m.chance(40) {
		_, path := m.module()
		l = append(l, "export * from "+path+";")
	}
	if other, path := m.module(); len(other.values) > 0 && m.chance(40) {
		// Its own names alone: those of others could lead in a circle.
		l = append(l, "export { "+m.pick(other.values...)+" as z } from "+path+";")
	}
	return l
}

// imports are those of a module; all others have their plans by now.
func (m *maker) imports(mod int) []string {
	m.names, m.spaces, m.words = []string{"x", "y", "f", "C", "print", "text"}, nil, []string{"C"}
	m.types = []string{"C", "T", "number", "any", "null"}
	l := []string{fmt.Sprintf("import './%c';", 'a'+(mod+1)%len(m.plans))}
	for _, name := range []string{"n", "k"} {
		if m.chance(75) {
			_, path := m.module()
			l = append(l, "import * as "+name+" from "+path+";")
			m.spaces = append(m.spaces, name)
		}
	}
	for _, name := range []string{"q", "v", "w"} {
		other, path := m.module()
		switch {
		case len(other.spaces) > 0 && m.chance(40):
			l = append(l, "import { "+m.pick(other.spaces...)+" as "+name+" } from "+path+";")
			m.spaces = append(m.spaces, name)
		case len(other.values) > 0 && m.chance(70):
			there := m.pick(other.values...)
			l = append(l, "import { "+there+" as "+name+" } from "+path+";")
			m.names = append(m.names, name)
			if there == "C" {
				m.words, m.types = append(m.words, name), append(m.types, name)
			}
		default:
			l = append(l, "import type { "+m.pick(other.types...)+" as "+name+" } from "+path+";")
			m.types = append(m.types, name)
		}
	}
	return l
}

// way is a name with members, most of which lead on.
func (m *maker) way() string {
	s := m.pick(m.names...)
	if len(m.spaces) > 0 && m.chance(75) {
		s = m.pick(m.spaces...)
	}
	for m.chance(60) {
		s += "." + m.pick("x", "y", "f", "C", "m", "o", "t", "m", "o", "t", "r", "z", "e", "T", "default", "n", "nope")
	}
	return s
}

func (m *maker) kind(deep int) string {
	if deep <= 0 || m.chance(40) {
		return m.pick(m.types...)
	}
	k := func() string { return m.kind(deep - 1) }
	switch m.Intn(4) {
	case 0:
		return "(" + k() + " | " + k() + ")[]"
	case 1:
		return "{ a: " + k() + "; n: " + k() + "; }"
	case 2:
		return "((n: " + k() + ", x: " + k() + ") => " + k() + ")"
	}
	return k() + " | " + k()
}

// kindOrNot is what stands behind a name.
func (m *maker) kindOrNot() string {
	if m.chance(40) {
		return ""
	}
	return ": " + m.kind(2)
}

func (m *maker) expr(deep int) string {
	if deep <= 0 || m.chance(25) {
		return m.way()
	}
	e := func() string { return m.expr(deep - 1) }
	switch m.Intn(16) {
	case 0:
		return "[" + e() + ", " + e() + "]"
	case 1:
		return "({ " + m.pick("a", "n", "x") + ": " + e() + ", " + m.pick("b: 1", "x", "y", "C") + " })"
	case 2:
		return "((" + m.pick("", "n@", "x@, q", "p@") + ") => " + e() + ")"
	case 3:
		return "(function (" + m.pick("", "k@", "p") + ")@ { let " + m.pick("n", "x", "local") + "@ = " + e() + "; return " + e() + "; })"
	case 4:
		return "(" + m.pick("-", "!", "typeof ") + e() + ")"
	case 5:
		return "(" + e() + m.pick(" + ", " && ", " || ", " === ") + e() + ")"
	case 6:
		return "(" + e() + " ? " + e() + " : " + e() + ")"
	case 7:
		if m.spaceAssigned {
			return "(" + e() + "." + m.pick("x", "nope") + " = " + e() + ")"
		}
		return "(" + e() + "[0]." + m.pick("x", "nope") + " = " + e() + ")"
	case 8, 9:
		return e() + "(" + e() + ")"
	case 10:
		return "new " + m.pick(append(m.words, m.spaces...)...) + "(" + e() + ")"
	case 11:
		return e() + "." + m.pick("x", "m", "nope")
	case 12:
		return e() + "[" + e() + "]"
	case 13:
		return "1"
	}
	return m.way()
}

func (m *maker) statement(deep int) string {
	switch m.Intn(8) {
	case 0:
		return "if (#) { #; } else { " + m.block(deep) + " }"
	case 1:
		return "while (#) { " + m.block(deep) + " }"
	case 2:
		return "throw #;"
	case 3:
		return "{ " + m.block(deep) + " }"
	case 4:
		return "x = #;"
	}
	return "(#);"
}

// block has names of its own that stand before those of the module.
func (m *maker) block(deep int) string {
	s := m.pick("", "let n@ = #; ", "const k@ = #; ", "function f(n@)@ { #; } ")
	if deep > 0 && m.chance(60) {
		s += m.statement(deep - 1)
	}
	return s + " #;"
}

// filled puts expressions and types where the signs for them stand.
func (m *maker) filled(s string) string {
	s = strings.ReplaceAll(s, "!let", "let local@ = #")
	for strings.Contains(s, "#") {
		s = strings.Replace(s, "#", m.expr(3), 1)
	}
	s = strings.ReplaceAll(s, "type T = !", "type T = "+m.pick("number", "C", "C[] | null"))
	for strings.Contains(s, "@") {
		s = strings.Replace(s, "@", m.kindOrNot(), 1)
	}
	return s
}

// sources are those of some modules; each asks for the next one.
func (m *maker) sources() []string {
	m.plans = make([]plan, 1+m.Intn(4))
	l := make([][]string, len(m.plans))
	for mod := range m.plans {
		l[mod], m.plans[mod] = m.own()
	}
	for mod := range m.plans {
		l[mod] = append(l[mod], m.others(&m.plans[mod])...)
	}
	var sources []string
	for mod, items := range l {
		items = append(items, m.imports(mod)...)
		for range 1 + m.Intn(5) {
			items = append(items, m.statement(2))
		}
		m.Shuffle(len(items), func(i, j int) { items[i], items[j] = items[j], items[i] })
		sources = append(sources, m.filled(strings.Join(items, " ")))
	}
	return sources
}

// made are the modules of a seed.
func made(t *testing.T, seed int64, spaceAssigned bool) ([]string, api.Linked) {
	t.Helper()
	m := &maker{Rand: rand.New(rand.NewSource(seed)), spaceAssigned: spaceAssigned}
	sources := m.sources()
	return sources, linked(t, sources...)
}

package pure

import (
	"math/rand"
	"strings"
)

// A plan is what a module gives by itself: names of values, of namespaces and of types.
type plan struct {
	values, spaces, types []string
}

// A maker makes modules by chance that can be linked, full of namespaces and ways.
type maker struct {
	*rand.Rand
	plans  []plan
	names  []string // the values of the module that is made
	spaces []string // those that are namespaces
	words  []string // its classes, by which an object can be made
}

func (m *maker) pick(l ...string) string { return l[m.Intn(len(l))] }

func (m *maker) chance(percent int) bool { return m.Intn(100) < percent }

func (m *maker) module() (int, string) {
	other := m.Intn(len(m.plans))
	return other, "'./" + string(rune('a'+other)) + "'"
}

// own are the items that declare a module's own names; the plan says which of them it exports.
func (m *maker) own() ([]string, plan) {
	var l []string
	var p plan
	for _, name := range []string{"x", "y", "f", "C", "T", "D"} {
		form := map[string]string{"x": "let x = #;", "y": "const y = #;", "f": "function f(p) { #; return #; }", "C": "class C { a = #; constructor(q) { #; } b(n) { #; } }", "T": "type T = C;", "D": "class D { b: C = #; }"}[name]
		switch {
		case m.chance(30):
		case name == "D":
			l = append(l, "export type { D as E };")
			p.types = append(p.types, "E")
		case m.chance(50):
			form = "export " + form
			fallthrough
		default:
			if !strings.HasPrefix(form, "export") {
				l = append(l, "export { "+name+" };")
			}
			if name == "T" {
				p.types = append(p.types, name)
			} else {
				p.values = append(p.values, name)
			}
		}
		l = append(l, form)
	}
	switch m.Intn(6) {
	case 0:
		l = append(l, "export default (#);")
		p.values = append(p.values, "default")
	case 1:
		l = append(l, "export default function e(n) { #; }")
		p.values = append(p.values, "default")
	case 2:
		l = append(l, "export default class e { a = #; }")
		p.values = append(p.values, "default")
	}
	return l, p
}

// others are the exports of namespaces, which all modules may lead to.
func (m *maker) others(mod int) []string {
	var l []string
	p := &m.plans[mod]
	for _, name := range []string{"m", "o"} {
		if m.chance(50) {
			_, path := m.module()
			l = append(l, "export * as "+name+" from "+path+";")
			p.spaces = append(p.spaces, name)
		}
	}
	if m.chance(40) {
		_, path := m.module()
		l = append(l, "import * as s from "+path+";", m.pick("export { s as t };", "export { s as t, s as r };"))
		p.spaces = append(p.spaces, "t")
	}
	for m.chance(40) {
		_, path := m.module()
		l = append(l, "export * from "+path+";")
	}
	if other, path := m.module(); len(m.plans[other].values) > 0 && m.chance(30) {
		// Its own names alone: those of others could lead in a circle.
		l = append(l, "export { "+m.pick(m.plans[other].values...)+" as z } from "+path+";")
	}
	return l
}

// imports are those of a module; all others have their plans by now.
func (m *maker) imports(mod int) []string {
	m.names, m.spaces, m.words = []string{"x", "y", "f", "C", "D", "print", "text"}, nil, []string{"C", "D"}
	next := (mod + 1) % len(m.plans)
	l := []string{"import './" + string(rune('a'+next)) + "';"}
	for _, name := range []string{"n", "k"} {
		if m.chance(70) {
			_, path := m.module()
			l = append(l, "import * as "+name+" from "+path+";")
			m.spaces = append(m.spaces, name)
		}
	}
	for _, name := range []string{"q", "v", "w"} {
		other, path := m.module()
		p := m.plans[other]
		switch {
		case len(p.spaces) > 0 && m.chance(40):
			l = append(l, "import { "+m.pick(p.spaces...)+" as "+name+" } from "+path+";")
			m.spaces = append(m.spaces, name)
		case len(p.values) > 0 && m.chance(70):
			there := m.pick(p.values...)
			l = append(l, "import { "+there+" as "+name+" } from "+path+";")
			m.names = append(m.names, name)
			if there == "C" {
				m.words = append(m.words, name)
			}
		case len(p.types) > 0:
			l = append(l, m.pick("import", "import type")+" { "+m.pick(p.types...)+" as "+name+" } from "+path+"; let u"+name+": "+name+"[] = #;")
		}
	}
	return l
}

// way is a name with members, most of which lead on.
func (m *maker) way() string {
	s := m.pick(m.names...)
	if len(m.spaces) > 0 && m.chance(75) {
		s = m.pick(m.spaces...)
	}
	for m.chance(60) {
		s += "." + m.pick("x", "y", "f", "C", "m", "o", "t", "m", "o", "t", "r", "z", "e", "T", "E", "default", "n", "nope")
	}
	return s
}

func (m *maker) expr(deep int) string {
	if deep <= 0 || m.chance(25) {
		return m.way()
	}
	e := func() string { return m.expr(deep - 1) }
	switch m.Intn(16) {
	case 0:
		return "[" + e() + ", " + e() + "]"
	case 1:
		return "({ " + m.pick("a", "n", "x") + ": " + e() + ", " + m.pick("b: 1", "x", "y") + " })"
	case 2:
		return "(" + m.pick("()", "(n)", "(x, q)", "(p: C)") + " => " + e() + ")"
	case 3:
		return "(function (" + m.pick("", "k", "p") + ") { let " + m.pick("n", "x", "local") + " = " + e() + "; return " + e() + "; })"
	case 4:
		return "(" + m.pick("-", "!", "typeof ") + e() + ")"
	case 5:
		return "(" + e() + m.pick(" + ", " && ", " || ", " === ") + e() + ")"
	case 6:
		return "(" + e() + " ? " + e() + " : " + e() + ")"
	case 7:
		return "(" + e() + "." + m.pick("x", "nope") + " = " + e() + ")"
	case 8, 9:
		return e() + "(" + e() + ")"
	case 10:
		return "new " + m.pick(append(m.words, m.spaces...)...) + "(" + e() + ")"
	case 11:
		return e() + "." + m.pick("x", "m", "nope")
	case 12:
		return e() + "[" + e() + "]"
	case 13:
		return "1"
	}
	return m.way()
}

func (m *maker) statement(deep int) string {
	switch m.Intn(8) {
	case 0:
		return "if (#) { #; } else { " + m.block(deep) + " }"
	case 1:
		return "while (#) { " + m.block(deep) + " }"
	case 2:
		return "throw #;"
	case 3:
		return "{ " + m.block(deep) + " }"
	case 4:
		return "x = #;"
	}
	return "(#);"
}

// block has names of its own that stand before those of the module.
func (m *maker) block(deep int) string {
	s := m.pick("", "let n = #; ", "const k = #; ", "function f(n) { #; } ")
	if deep > 0 && m.chance(60) {
		s += m.statement(deep - 1)
	}
	return s + " #;"
}

// sources are those of some modules; each asks for the next one.
func (m *maker) sources() []string {
	m.plans = make([]plan, 1+m.Intn(4))
	l := make([][]string, len(m.plans))
	for mod := range m.plans {
		l[mod], m.plans[mod] = m.own()
	}
	for mod := range m.plans {
		l[mod] = append(l[mod], m.others(mod)...)
	}
	var sources []string
	for mod, items := range l {
		items = append(items, m.imports(mod)...)
		for range 1 + m.Intn(5) {
			items = append(items, m.statement(2))
		}
		m.Shuffle(len(items), func(i, j int) { items[i], items[j] = items[j], items[i] })
		source := strings.Join(items, " ")
		for strings.Contains(source, "#") {
			source = strings.Replace(source, "#", m.expr(3), 1)
		}
		sources = append(sources, source)
	}
	return sources
}

func madeSources(seed int64) []string {
	return (&maker{Rand: rand.New(rand.NewSource(seed))}).sources()
}

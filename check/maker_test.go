package check

import (
	"fmt"
	"math/rand"
	"strings"
)

// The sorts of what a maker makes, each with the type that says it.
const (
	sortNumber = iota
	sortText
	sortBool
	sortNull
	sortUnion
	sortAny
	sortList
	sortRecord
	sortFn
	sortInst
	sortClass
	sortSpace
	sorts
)

func (m *maker) typeText(sort int) string {
	switch sort {
	case sortNumber:
		return "number"
	case sortText:
		return "string"
	case sortBool:
		return "boolean"
	case sortNull:
		return "null"
	case sortUnion:
		return m.pick("number | string | null", "string | number | null", "T", "(T | number)")
	case sortAny:
		return "any"
	case sortList:
		return m.pick("number[]", "(number)[]")
	case sortRecord:
		return "{ a: number; b: string | null; }"
	case sortFn:
		return "(p: number) => string"
	case sortInst:
		return "K"
	}
	return ""
}

// A variable is a name that can be used, and of which sort it is thought to be.
type variable struct {
	name   string
	sort   int
	assign bool
}

// A maker makes the source of a module by chance: most of it well typed, and full of conditions.
type maker struct {
	rng     *rand.Rand
	vars    []variable
	block   map[string]bool // the names of the innermost block
	answer  int             // the sort of what the function around answers; -1: it says nothing, -2: there is none
	inClass bool
	wrong   int // in how many of 1000 expressions another sort is taken
}

func (m *maker) pick(l ...string) string { return l[m.rng.Intn(len(l))] }

func (m *maker) chance(percent int) bool { return m.rng.Intn(100) < percent }

// find is a variable of a sort; "", if there is none.
func (m *maker) find(sort int, assign bool) string {
	var l []string
	for i := len(m.vars) - 1; i >= 0; i-- {
		v := m.vars[i]
		if v.sort == sort && (v.assign || !assign) {
			l = append(l, v.name)
		}
	}
	if len(l) == 0 {
		return ""
	}
	// The innermost ones more often.
	return l[min(m.rng.Intn(len(l)), m.rng.Intn(len(l)))]
}

func (m *maker) expr(sort, depth int) string {
	if m.rng.Intn(1000) < m.wrong {
		sort = m.rng.Intn(sorts)
	}
	if name := m.find(sort, false); name != "" && m.chance(45) {
		return name
	}
	if depth > 0 && m.chance(15) {
		return m.either(sort, depth-1)
	}
	switch sort {
	case sortNumber:
		return m.number(depth)
	case sortText:
		return m.text(depth)
	case sortBool:
		return m.boolean(depth)
	case sortNull:
		return "null"
	case sortUnion:
		return m.expr(m.rng.Intn(2), depth)
	case sortAny:
		return m.any(depth)
	case sortList:
		if depth <= 0 {
			return m.pick("[]", "[1]")
		}
		return "[" + m.expr(sortNumber, depth-1) + ", " + m.expr(sortNumber, depth-1) + "]"
	case sortRecord:
		return "{ " + m.pick("", "a: null, ") + "a: " + m.expr(sortNumber, depth-1) + ", b: " + m.expr(m.rng.Intn(4)/3*2+sortText, depth-1) + m.pick("", ", c: true") + " }"
	case sortFn:
		return m.fn(depth)
	case sortInst:
		if m.inClass && m.chance(50) {
			return "this"
		}
		return "new K(" + m.expr(sortNumber, depth-1) + ")"
	case sortClass:
		return "K"
	}
	return "print"
}

// either is an expression of a sort by a condition.
func (m *maker) either(sort, depth int) string {
	cond, inner, outer := m.condition(depth)
	yes := m.knowing(inner, func() string { return m.expr(sort, depth) })
	no := m.knowing(outer, func() string { return m.expr(sort, depth) })
	switch m.rng.Intn(4) {
	case 0:
		return "(" + m.expr(sort, depth) + m.pick(" && ", " || ") + m.expr(sort, depth) + ")"
	case 1:
		return "(" + cond + " && " + yes + m.pick(" ? ", " === null ? ") + m.expr(sort, depth) + " : " + m.expr(sort, depth) + ")"
	}
	return "(" + cond + " ? " + yes + " : " + no + ")"
}

// condition is one, and what is thought to be known where it is true and where it is not.
func (m *maker) condition(depth int) (string, []variable, []variable) {
	name := m.find(sortUnion, false)
	if other := m.find(sortAny, false); name == "" || other != "" && m.chance(20) {
		name = other
	}
	if name == "" || m.chance(10) {
		return m.expr(m.rng.Intn(sorts), depth), nil, nil
	}
	var text string
	var yes, no []variable
	switch m.rng.Intn(6) {
	case 0, 1:
		text, yes = m.pick("typeof "+name+" === 'number'", "'number' === typeof "+name), []variable{{name, sortNumber, false}}
	case 2:
		text, no = "typeof "+name+" !== 'string'", []variable{{name, sortText, false}}
	case 3:
		text, yes = name+" === null", []variable{{name, sortNull, false}}
	case 4:
		text = name
	case 5:
		other, inner, _ := m.condition(depth - 1)
		if depth <= 0 {
			other, inner = "true", nil
		}
		text, yes = "("+name+" !== null && "+other+")", inner
		if m.chance(40) {
			text, yes = "(typeof "+name+" === 'string' || "+name+" === null || "+other+")", nil
			no = []variable{{name, sortNumber, false}}
		}
	}
	if m.chance(20) {
		return "!(" + text + ")", no, yes
	}
	return text, yes, no
}

// knowing makes something where more is known.
func (m *maker) knowing(more []variable, make func() string) string {
	before := len(m.vars)
	m.vars = append(m.vars, more...)
	text := make()
	m.vars = m.vars[:before]
	return text
}

func (m *maker) number(depth int) string {
	if depth <= 0 {
		return m.pick("1", "2", "0")
	}
	n := func() string { return m.expr(sortNumber, depth-1) }
	switch m.rng.Intn(9) {
	case 0:
		return "(-" + n() + ")"
	case 1, 2:
		return "(" + n() + m.pick(" + ", " - ", " * ", " / ", " % ") + n() + ")"
	case 3:
		return m.expr(sortList, depth-1) + "[" + n() + "]"
	case 4:
		return m.expr(sortRecord, depth-1) + ".a"
	case 5:
		return m.expr(m.rng.Intn(2)*(sortList-sortText)+sortText, depth-1) + ".length"
	case 6:
		return "push(" + m.expr(sortList, depth-1) + ", " + n() + ")"
	case 7:
		return m.expr(sortInst, depth-1) + ".k"
	}
	if space := m.find(sortSpace, false); space != "" {
		if m.rng.Intn(1000) < 20*m.wrong {
			return space + "." + m.pick("K", "default", "T", "nope")
		}
		return "(" + space + m.pick(".e0", ".e1", ".e2", ".e3") + " === null ? 1 : 2)"
	}
	return "1"
}

func (m *maker) text(depth int) string {
	if depth <= 0 {
		return m.pick("'a'", "''")
	}
	s := func() string { return m.expr(sortText, depth-1) }
	switch m.rng.Intn(6) {
	case 0:
		return "(" + s() + " + " + m.expr(m.rng.Intn(3), depth-1) + ")"
	case 1:
		return "text(" + m.expr(m.rng.Intn(sorts), depth-1) + ")"
	case 2:
		return m.expr(sortFn, depth-1) + "(" + m.expr(sortNumber, depth-1) + ")"
	case 3:
		return "typeof " + m.expr(m.rng.Intn(sorts), 0)
	case 4:
		return s() + "[" + m.expr(sortNumber, depth-1) + "]"
	}
	return m.expr(sortInst, depth-1) + ".m(" + s() + ")"
}

func (m *maker) boolean(depth int) string {
	if depth <= 0 {
		return m.pick("true", "false")
	}
	switch m.rng.Intn(3) {
	case 0:
		return "!" + m.expr(m.rng.Intn(sorts), depth-1)
	case 1:
		sort := m.rng.Intn(2)
		return "(" + m.expr(sort, depth-1) + m.pick(" < ", " <= ", " > ", " >= ") + m.expr(sort, depth-1) + ")"
	}
	return "(" + m.expr(m.rng.Intn(sorts), depth-1) + m.pick(" === ", " !== ") + m.expr(m.rng.Intn(sorts), depth-1) + ")"
}

func (m *maker) any(depth int) string {
	if depth <= 0 {
		return "[][0]"
	}
	a := func() string { return m.expr(sortAny, depth-1) }
	switch m.rng.Intn(5) {
	case 0:
		return a() + ".foo"
	case 1:
		return a() + "[" + m.expr(m.rng.Intn(sorts), depth-1) + "]"
	case 2:
		return a() + "(" + m.expr(m.rng.Intn(sorts), depth-1) + ")"
	case 3:
		return "(" + a() + " + " + m.expr(m.rng.Intn(sorts), depth-1) + ")"
	}
	if name := m.find(sortAny, false); name != "" {
		return "new " + name + "(" + m.expr(sortNumber, depth-1) + ")"
	}
	return "[][0]"
}

// fn is a function of a number that answers a text.
func (m *maker) fn(depth int) string {
	if m.chance(30) || depth <= 0 {
		return "function (p: number): string { return " + m.knowing([]variable{{"p", sortNumber, false}}, func() string { return m.expr(sortText, depth-1) }) + "; }"
	}
	name := m.pick("v", "w", "a")
	return "function (" + name + ": number): string " + m.body([]variable{{name, sortNumber, name != "a"}}, sortText, depth-1)
}

// body is the block of a function.
func (m *maker) body(params []variable, answer, depth int) string {
	block, outer, before := m.block, m.answer, len(m.vars)
	m.answer = answer
	m.vars = append(m.vars, params...)
	text := m.statements(depth)
	m.vars, m.answer, m.block = m.vars[:before], outer, block
	return text
}

// statements is a block.
func (m *maker) statements(depth int) string {
	block, before := m.block, len(m.vars)
	m.block = map[string]bool{}
	var l []string
	late := ""
	if m.chance(30) {
		// A Let that stands behind some of its uses.
		late = m.declare("a", "b", "c", "d", "e")
		m.vars = append(m.vars, variable{late, sortAny, false})
	}
	for range 1 + m.rng.Intn(3) {
		l = append(l, m.statement(depth))
	}
	if late != "" {
		sort := m.rng.Intn(sortInst)
		l = append(l, "const "+late+" = "+m.expr(sort, depth)+";")
		m.vars = append(m.vars, variable{late, sort, false})
		l = append(l, m.statement(depth), m.statement(depth))
	}
	if m.chance(25) {
		l = append(l, m.leave(depth))
	}
	m.block, m.vars = block, m.vars[:before]
	return "{ " + strings.Join(l, " ") + " }"
}

func (m *maker) leave(depth int) string {
	switch {
	case m.answer == -2 || m.chance(20):
		return "throw " + m.expr(m.rng.Intn(sorts), depth) + ";"
	case m.answer == -1:
		return m.pick("return;", "return "+m.expr(m.rng.Intn(sorts), depth)+";")
	}
	return "return " + m.expr(m.answer, depth) + ";"
}

// declare is a name that the block has not yet; "", if there is none.
func (m *maker) declare(names ...string) string {
	name := m.pick(names...)
	if m.block[name] {
		return ""
	}
	m.block[name] = true
	return name
}

func (m *maker) let(depth int) string {
	assign := m.chance(40)
	word, name := "const", ""
	if assign {
		word, name = "let", m.declare("v", "w", "x", "y", "z")
	} else {
		name = m.declare("a", "b", "c", "d", "e")
	}
	if name == "" {
		return "1;"
	}
	sort := m.rng.Intn(sorts)
	if m.chance(40) {
		sort = sortUnion
	}
	text := m.expr(sort, depth)
	typ := m.typeText(sort)
	if typ == "" || sort != sortUnion && m.chance(50) {
		typ = ""
	} else {
		typ = ": " + typ
	}
	m.vars = append(m.vars, variable{name, sort, assign})
	return word + " " + name + typ + " = " + text + ";"
}

func (m *maker) statement(depth int) string {
	if depth <= 0 {
		return "(" + m.expr(m.rng.Intn(sorts), 0) + ");"
	}
	switch m.rng.Intn(11) {
	case 0, 1, 2:
		return m.let(depth - 1)
	case 3:
		return m.assignment(depth - 1)
	case 4, 5, 6:
		return m.branch(depth - 1)
	case 7:
		cond, yes, _ := m.condition(depth - 1)
		return "while (" + cond + ") " + m.knowing(yes, func() string { return m.statements(depth - 1) })
	case 8:
		return m.statements(depth - 1)
	case 9:
		return m.function(depth - 1)
	}
	return "(" + m.expr(m.rng.Intn(sorts), depth) + ");"
}

func (m *maker) assignment(depth int) string {
	sort := m.rng.Intn(sorts)
	switch m.rng.Intn(4) {
	case 0:
		return "(" + m.expr(sortRecord, 0) + m.pick(".a", ".a", ".a", ".a", ".a", ".a", ".b", ".c") + " = " + m.expr(sortNumber, depth) + ");"
	case 1:
		return "(" + m.expr(sortList, 0) + "[0] = " + m.expr(sortNumber, depth) + ");"
	}
	if name := m.find(sort, true); name != "" {
		return name + " = " + m.expr(sort, depth) + ";"
	}
	return "2;"
}

func (m *maker) branch(depth int) string {
	cond, yes, no := m.condition(depth)
	text := "if (" + cond + ") " + m.knowing(yes, func() string { return m.statements(depth) })
	leaves := false
	if m.chance(40) {
		text = "if (" + cond + ") { " + m.leave(depth) + " }"
		leaves = true
	}
	if m.chance(40) {
		text += " else " + m.knowing(no, func() string { return m.statements(depth) })
	}
	if leaves {
		m.vars = append(m.vars, no...)
	}
	return text
}

func (m *maker) function(depth int) string {
	name := m.declare("f", "g", "h")
	if name == "" {
		return "3;"
	}
	m.vars = append(m.vars, variable{name, sortFn, false})
	if m.chance(30) {
		return "function " + name + "(v: T, a) " + m.body([]variable{{"v", sortUnion, true}, {"a", sortAny, false}}, -1, depth)
	}
	return "function " + name + "(w: number): string " + m.body([]variable{{"w", sortNumber, true}}, sortText, depth)
}

// exported are the sorts of what each module exports as e0 and so on, and whether it says their types.
type exported4 struct {
	sorts [4]int
	typed [4]bool
}

// sourceOf is a module that may ask for others.
func (m *maker) sourceOf(mod int, plans []exported4) string {
	m.vars, m.block, m.answer, m.inClass = nil, map[string]bool{}, -2, false
	items := []string{m.pick("", "export ") + "type T = number | string | null;"}
	for other := range plans {
		if other == mod && !m.chance(10) {
			continue
		}
		path := "'./" + string(rune('a'+other)) + "'"
		items = append(items, fmt.Sprintf("import * as n%d from %s;", other, path))
		m.vars = append(m.vars, variable{fmt.Sprint("n", other), sortSpace, false})
		for i := range 4 {
			if m.chance(50) {
				items = append(items, fmt.Sprintf("import { e%d as i%d%d } from %s;", i, other, i, path))
				sort := plans[other].sorts[i]
				if !plans[other].typed[i] {
					sort = sortAny
				}
				m.vars = append(m.vars, variable{fmt.Sprintf("i%d%d", other, i), sort, false})
			}
		}
	}
	m.rng.Shuffle(len(items), func(i, j int) { items[i], items[j] = items[j], items[i] })
	items = append(items, m.class())
	for i, sort := range plans[mod].sorts {
		text := m.pick("const", "let") + fmt.Sprint(" e", i)
		if plans[mod].typed[i] {
			text += ": " + m.typeText(sort)
		}
		items = append(items, "export "+text+" = "+m.expr(sort, 1)+";")
		m.vars = append(m.vars, variable{fmt.Sprint("e", i), sort, strings.HasPrefix(text, "let")})
	}
	for range 2 + m.rng.Intn(4) {
		items = append(items, m.statement(3))
	}
	if m.chance(30) {
		items = append(items, "export default ("+m.expr(m.rng.Intn(sorts), 2)+");")
	}
	return strings.Join(items, " ")
}

// class is the class K, which all modules have.
func (m *maker) class() string {
	m.inClass = true
	text := m.pick("", "export ") + "class K { k: number = " + m.expr(sortNumber, 1) + "; l = " + m.expr(sortAny, 1) + "; constructor(v: number) " + m.body([]variable{{"v", sortNumber, true}}, -1, 1) +
		" m(s: string): string " + m.body([]variable{{"s", sortText, true}}, sortText, 2) + " }"
	m.inClass = false
	return text
}

// madeSources are the sources of one to three modules.
func madeSources(seed int64) []string {
	rng := rand.New(rand.NewSource(seed))
	plans := make([]exported4, 1+rng.Intn(3))
	for i := range plans {
		for j := range 4 {
			plans[i].sorts[j] = rng.Intn(sortInst)
			if j == 0 {
				plans[i].sorts[j] = sortUnion
			}
			plans[i].typed[j] = rng.Intn(3) > 0
		}
	}
	m := &maker{rng: rng, wrong: []int{0, 0, 2, 10}[rng.Intn(4)]}
	var l []string
	for mod := range plans {
		l = append(l, m.sourceOf(mod, plans))
	}
	return l
}

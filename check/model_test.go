package check

import (
	"slices"

	"gusset/api"
	"gusset/exports"
	"gusset/flow"
	"gusset/link"
	"gusset/sign"
	"gusset/sub"
	"gusset/tree"
	"gusset/types"
)

// A model tells what the chapter says of a module in another way: it has no views and keeps no state, but lists all trees that have a rule in the order of the walk, and asks of each place from the whole tree what its type is and which facts hold there.
type model struct {
	l      api.Linked
	s      api.Signs
	mod    int
	nodes  []api.Node
	sizes  []int
	around []int // by places: that of the tree around it
	number []int // by places: which of its kids it is
	known  map[int]api.Type
	met    map[string]int
}

// A fault is what ends the walk.
type fault struct {
	at  int
	err api.Errno
}

func newModel(l api.Linked, s api.Signs, mod int, met map[string]int) *model {
	m := &model{l: l, s: s, mod: mod, known: map[int]api.Type{}, met: met}
	for _, n := range tree.All(l.Graph.Mods[mod].Tree) {
		m.nodes = append(m.nodes, n)
		m.sizes = append(m.sizes, tree.Size(n))
	}
	m.around, m.number = make([]int, len(m.nodes)), make([]int, len(m.nodes))
	m.around[0] = -1
	for at := range m.nodes {
		for i, kid := range m.kids(at) {
			m.around[kid], m.number[kid] = at, i
		}
	}
	return m
}

func (m *model) kids(at int) []int {
	var l []int
	next := at + 1
	for range m.nodes[at].Kids {
		l = append(l, next)
		next += m.sizes[next]
	}
	return l
}

func isTypeTree(n api.Node) bool { return n.Kind >= api.TypeName && n.Kind <= api.TypeFunc }

// order are the places in the order of the walk; what stands within a type is none of it.
func (m *model) order(at int) []int {
	if isTypeTree(m.nodes[at]) {
		return []int{at}
	}
	var l []int
	for _, kid := range m.kids(at) {
		l = append(l, m.order(kid)...)
	}
	return append(l, at)
}

// isExpression: what may be asked by TypeOf.
func (m *model) isExpression(at int) bool {
	if at < 0 || at >= len(m.nodes) || tree.Form(m.nodes[at]) != api.FormExpr {
		return false
	}
	kind := m.nodes[m.around[at]].Kind
	return kind != api.ImportOne && kind != api.ExportOne
}

// walk is what ends the walk of the module; zero, if nothing does.
func (m *model) walk() (f fault) {
	defer func() {
		if r := recover(); r != nil {
			f = r.(fault)
		}
	}()
	for _, at := range m.order(0) {
		m.rule(at)
	}
	return fault{}
}

func (m *model) rule(at int) {
	n, kids := m.nodes[at], m.kids(at)
	switch {
	case isTypeTree(n):
		if _, err := sign.Type(m.l, m.s, m.mod, n); err != api.OK {
			panic(fault{at, err})
		}
	case m.isExpression(at):
		m.typeOf(at)
	case n.Kind == api.Function || n.Kind == api.Method:
		m.function(at)
	case n.Kind == api.Let || n.Kind == api.Field:
		if t, err := sign.Type(m.l, m.s, m.mod, n.Kids[0]); err == api.OK {
			m.need(m.fits(m.typeOf(kids[1]), t), at)
		}
	case n.Kind == api.Return:
		m.returns(at)
	}
}

func (m *model) returns(at int) {
	of := m.around[at]
	for !slices.Contains([]int{api.Func, api.Function, api.Method, api.Ctor}, m.nodes[of].Kind) {
		of = m.around[of]
	}
	if m.nodes[of].Kind == api.Ctor || m.nodes[of].Kids[1].Kind == api.None {
		return
	}
	answer, _ := sign.Type(m.l, m.s, m.mod, m.nodes[of].Kids[1])
	t := api.Type{Kind: api.TypeUndef}
	if m.nodes[at].Kids[0].Kind != api.None {
		t = m.typeOf(at + 1)
	}
	m.need(m.fits(t, answer), at)
}

func (m *model) need(ok bool, at int) {
	if !ok {
		panic(fault{at, api.ErrType})
	}
}

func (m *model) fits(a, b api.Type) bool { return sub.Sub(a, b, m.s.Classes) }

func (m *model) settle(at int, t api.Type, err api.Errno) api.Type {
	if err == api.OK && types.Size(t) > api.MaxType {
		err = api.ErrComplex
	}
	if err != api.OK {
		panic(fault{at, err})
	}
	return t
}

func kind(k int) api.Type { return api.Type{Kind: k} }

// signature is the type of a Func, Function or Method.
func (m *model) signature(at int) (api.Type, api.Errno) {
	fn := kind(api.TypeFn)
	trees := []api.Node{}
	for _, p := range m.nodes[at].Kids[0].Kids {
		trees = append(trees, p.Kids[0])
	}
	for _, n := range append(trees, m.nodes[at].Kids[1]) {
		t, err := kind(api.TypeAny), api.OK
		if n.Kind != api.None {
			t, err = sign.Type(m.l, m.s, m.mod, n)
		}
		if err != api.OK {
			return api.Type{}, err
		}
		fn.List = append(fn.List, t)
	}
	return fn, types.Check(fn)
}

func (m *model) function(at int) api.Type {
	fn, err := m.signature(at)
	return m.settle(at, fn, err)
}

// typeOf is the type of an expression; a fault, if it has none.
func (m *model) typeOf(at int) api.Type {
	if t, ok := m.known[at]; ok {
		return t
	}
	t := m.find(at)
	m.known[at] = t
	return t
}

func (m *model) find(at int) api.Type {
	n, kids := m.nodes[at], m.kids(at)
	switch n.Kind {
	case api.Num:
		return kind(api.TypeNumber)
	case api.Text:
		return kind(api.TypeString)
	case api.Bool:
		return kind(api.TypeBoolean)
	case api.Null:
		return kind(api.TypeNull)
	case api.Undef:
		return kind(api.TypeUndef)
	case api.Name:
		return m.nameAt(at)
	case api.This:
		return m.this(at)
	case api.Array:
		l := m.types(kids)
		if len(l) == 0 {
			l = []api.Type{kind(api.TypeAny)}
		}
		u, err := types.Union(l...)
		return m.settle(at, api.Type{Kind: api.TypeList, List: []api.Type{u}}, err)
	case api.Object:
		return m.object(at)
	case api.Func:
		return m.function(at)
	case api.Unary:
		m.need(n.Text != "-" || m.fits(m.typeOf(kids[0]), kind(api.TypeNumber)), at)
		switch n.Text {
		case "-":
			return kind(api.TypeNumber)
		case "!":
			return kind(api.TypeBoolean)
		}
		return kind(api.TypeString)
	case api.Binary:
		return m.binary(at, n.Text, m.typeOf(kids[0]), m.typeOf(kids[1]))
	case api.Cond:
		u, err := types.Union(m.typeOf(kids[1]), m.typeOf(kids[2]))
		return m.settle(at, u, err)
	case api.Assign:
		return m.assign(at, kids[0], m.typeOf(kids[1]))
	case api.Call:
		return m.call(at, m.typeOf(kids[0]), kids[1:])
	case api.New:
		return m.call(at, m.nameAt(at), kids)
	case api.Member:
		return m.member(at, m.typeOf(kids[0]), n.Text)
	}
	return m.index(at, m.typeOf(kids[0]), m.typeOf(kids[1]))
}

func (m *model) types(places []int) []api.Type {
	var l []api.Type
	for _, at := range places {
		l = append(l, m.typeOf(at))
	}
	return l
}

func (m *model) object(at int) api.Type {
	var slots []api.Slot
	for _, prop := range m.kids(at) {
		name := m.nodes[prop].Text
		slots = slices.DeleteFunc(slots, func(s api.Slot) bool { return s.Name == name })
		slots = append(slots, api.Slot{Name: name, Type: m.typeOf(prop + 1)})
	}
	t, err := types.Record(slots)
	return m.settle(at, t, err)
}

func (m *model) this(at int) api.Type {
	for m.nodes[at].Kind != api.Class {
		at = m.around[at]
	}
	number := slices.IndexFunc(m.s.Classes, func(c api.ClassInfo) bool { return c.Mod == m.mod && c.Name == m.nodes[at].Text })
	return api.Type{Kind: api.TypeInst, N: number}
}

func (m *model) binary(at int, text string, a, b api.Type) api.Type {
	both := func(l ...int) bool {
		u := []api.Type{}
		for _, k := range l {
			u = append(u, kind(k))
		}
		t, _ := types.Union(u...)
		return m.fits(a, t) && m.fits(b, t)
	}
	number := both(api.TypeNumber)
	switch text {
	case "+":
		switch {
		case a.Kind == api.TypeAny || b.Kind == api.TypeAny:
			return kind(api.TypeAny)
		case number:
			return kind(api.TypeNumber)
		}
		m.need(both(api.TypeNumber, api.TypeString, api.TypeBoolean) && (m.fits(a, kind(api.TypeString)) || m.fits(b, kind(api.TypeString))), at)
		return kind(api.TypeString)
	case "-", "*", "/", "%":
		m.need(number, at)
		return kind(api.TypeNumber)
	case "<", "<=", ">", ">=":
		m.need(number || both(api.TypeString), at)
		return kind(api.TypeBoolean)
	case "===", "!==":
		return kind(api.TypeBoolean)
	}
	u, err := types.Union(a, b)
	return m.settle(at, u, err)
}

func (m *model) assign(at, target int, t api.Type) api.Type {
	of := 0
	if m.nodes[target].Kind != api.Name {
		of = m.typeOf(target + 1).Kind
	}
	switch m.nodes[target].Kind {
	case api.Name:
		m.need(m.fits(t, m.plain(m.use(target))), at)
	case api.Member:
		m.need(slices.Contains([]int{api.TypeAny, api.TypeRecord, api.TypeInst}, of) && m.fits(t, m.typeOf(target)), at)
	case api.Index:
		m.need(slices.Contains([]int{api.TypeAny, api.TypeList}, of) && m.fits(t, m.typeOf(target)), at)
	}
	return t
}

// call: of a Call or a New.
func (m *model) call(at int, t api.Type, arguments []int) api.Type {
	isNew := m.nodes[at].Kind == api.New
	var params []api.Type
	var answer api.Type
	switch {
	case t.Kind == api.TypeAny:
		return t
	case t.Kind == api.TypeFn && !isNew:
		params, answer = t.List[:len(t.List)-1], t.List[len(t.List)-1]
	case t.Kind == api.TypeClass && isNew:
		params, answer = m.s.Classes[t.N].Params, api.Type{Kind: api.TypeInst, N: t.N}
	default:
		m.need(false, at)
	}
	m.need(len(params) == len(arguments), at)
	for i, argument := range arguments {
		m.need(m.fits(m.typeOf(argument), params[i]), argument)
	}
	return answer
}

func (m *model) member(at int, of api.Type, name string) api.Type {
	if of.Kind == api.TypeSpace {
		f := exports.Resolve(m.l.Entries, of.N, name)
		m.need(link.Value(m.l, f), at)
		return m.leads(f)
	}
	t, ok := sub.Member(of, name, m.s.Classes)
	m.need(ok, at)
	return t
}

func (m *model) index(at int, of, key api.Type) api.Type {
	number := m.fits(key, kind(api.TypeNumber))
	switch {
	case of.Kind == api.TypeAny, of.Kind == api.TypeString && number:
		return of
	case of.Kind == api.TypeList && number:
		return of.List[0]
	}
	panic(fault{at, api.ErrType})
}

func (m *model) leads(f api.Found) api.Type {
	if f.Kind == api.FoundSpace {
		return api.Type{Kind: api.TypeSpace, N: f.Mod}
	}
	for _, slot := range m.s.Tops[f.Mod] {
		if slot.Name == f.Name {
			return slot.Type
		}
	}
	return kind(api.TypeAny)
}

func (m *model) use(at int) api.Use {
	for _, u := range m.l.Scopes[m.mod].Uses {
		if u.At == at {
			return u
		}
	}
	panic("no use")
}

// plain is the type of a name, not narrowed.
func (m *model) plain(u api.Use) api.Type {
	if u.Kind == api.UseBuiltin {
		return builtinTypes()[u.Name]
	}
	n := m.nodes[u.Decl]
	switch {
	case u.Kind == api.UseImport:
		return m.leads(link.Target(m.l, m.mod, u))
	case n.Kind == api.Let && n.Kids[0].Kind == api.None:
		if u.Decl+m.sizes[u.Decl]-1 < u.At {
			return m.typeOf(m.kids(u.Decl)[1])
		}
		m.met["early"]++
		return kind(api.TypeAny)
	case n.Kind == api.Let, n.Kind == api.Param:
		t, err := sign.Type(m.l, m.s, m.mod, n.Kids[0])
		if err != api.OK {
			return kind(api.TypeAny)
		}
		return t
	case n.Kind == api.Function && u.Kind == api.UseLocal:
		t, err := m.signature(u.Decl)
		if err != api.OK {
			return kind(api.TypeAny)
		}
		return t
	}
	return m.leads(api.Found{Kind: api.FoundOne, Mod: m.mod, Name: u.Name})
}

// nameAt is the type of a name, narrowed.
func (m *model) nameAt(at int) api.Type {
	u := m.use(at)
	t := m.plain(u)
	for _, other := range m.l.Scopes[m.mod].Uses {
		if other.Decl == u.Decl && other.Kind == u.Kind && m.nodes[m.around[other.At]].Kind == api.Assign && m.number[other.At] == 0 && m.nodes[other.At].Kind == api.Name {
			m.met["assigned"]++
			return t
		}
	}
	facts := m.facts(at, u)
	if len(facts) > 1 {
		m.met["several facts"]++
	}
	for _, f := range facts {
		left := flow.Narrow(t, f)
		if types.Compare(left, t) != 0 {
			m.met["narrowed"]++
		}
		t = left
	}
	return t
}

// facts are those that hold of a use at a place: outer ones ahead.
func (m *model) facts(at int, u api.Use) []api.Fact {
	of := m.around[at]
	if of < 0 {
		return nil
	}
	facts := m.facts(of, u)
	n, i, kids := m.nodes[of], m.number[at], m.kids(of)
	switch {
	case n.Kind == api.If && i == 1, n.Kind == api.While && i == 1, n.Kind == api.Cond && i == 1, n.Kind == api.Binary && n.Text == "&&" && i == 1:
		return append(facts, m.told(kids[0], true, u)...)
	case n.Kind == api.If && i == 2, n.Kind == api.Cond && i == 2, n.Kind == api.Binary && n.Text == "||" && i == 1:
		return append(facts, m.told(kids[0], false, u)...)
	case n.Kind == api.Block, n.Kind == api.Module:
		for _, ahead := range kids[:i] {
			if m.nodes[ahead].Kind != api.If {
				continue
			}
			if leaves(m.nodes[ahead].Kids[1]) {
				facts = append(facts, m.told(ahead+1, false, u)...)
			}
			if leaves(m.nodes[ahead].Kids[2]) {
				facts = append(facts, m.told(ahead+1, true, u)...)
			}
		}
	}
	return facts
}

func leaves(block api.Node) bool {
	for i := len(block.Kids) - 1; i >= 0; {
		return block.Kids[i].Kind == api.Return || block.Kids[i].Kind == api.Throw
	}
	return false
}

// told are the facts of a condition that are of the declaration that a use says.
func (m *model) told(condition int, is bool, u api.Use) []api.Fact {
	var l []api.Fact
	for _, f := range flow.Facts(m.nodes[condition], is) {
		if says := m.says(condition, f.Name); says.Decl == u.Decl && says.Kind == u.Kind && says.Name == u.Name {
			l = append(l, f)
		} else if f.Name == u.Name {
			m.met["shadowed"]++
		}
	}
	return l
}

// says is the use of a name in a condition that stands in no function there.
func (m *model) says(condition int, name string) api.Use {
	for _, u := range m.l.Scopes[m.mod].Uses {
		if u.At < condition || u.At >= condition+m.sizes[condition] || u.Name != name || m.nodes[u.At].Kind != api.Name {
			continue
		}
		inner := false
		for at := u.At; at != condition; at = m.around[at] {
			inner = inner || m.nodes[m.around[at]].Kind == api.Func
		}
		if !inner {
			return u
		}
	}
	panic("no such name in the condition")
}

func builtinTypes() map[string]api.Type {
	value, number, text, undef := kind(api.TypeAny), kind(api.TypeNumber), kind(api.TypeString), kind(api.TypeUndef)
	either := func(a, b api.Type) api.Type {
		u, _ := types.Union(a, b)
		return u
	}
	fn := func(l ...api.Type) api.Type { return api.Type{Kind: api.TypeFn, List: l} }
	return map[string]api.Type{
		"print": fn(value, undef), "read": fn(either(undef, text)), "text": fn(value, text), "parse": fn(text, either(number, undef)),
		"push": fn(api.Type{Kind: api.TypeList, List: []api.Type{value}}, value, number),
	}
}

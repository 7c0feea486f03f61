package check

import (
	"cmp"
	"slices"

	"gusset/api"
	"gusset/link"
	"gusset/sign"
	"gusset/types"
)

// A module is the view from its top, where no fact holds: all that the program has, and what the module's own names say.
type module struct {
	*program
	mod      int
	spots    []spot
	uses     []api.Use
	assigned []bool           // by declarations: whether an Assign has it as its target
	given    []api.Type       // by places: what the walk gave to expressions; nothing, where it has not come yet
	read     map[int]reading  // by places: what trees of types say, as far as they were asked for
	said     map[int]api.Type // by declarations: their types, as far as they were asked for
}

// A reading is what sign.Type told of a tree.
type reading struct {
	says api.Type
	err  api.Errno
}

// named is a use of a name. It is early, if the name is of a Let without a type of which not all stands ahead of the use.
type named struct {
	api.Use
	early bool
}

func newModule(p *program, mod int) *module {
	m := &module{program: p, mod: mod, read: map[int]reading{}, said: map[int]api.Type{}}
	m.spots = spotsOf(&p.linked.Graph.Mods[mod].Tree)
	if mod < len(p.linked.Scopes) {
		m.uses = p.linked.Scopes[mod].Uses
	}
	m.assigned = make([]bool, len(m.spots))
	m.given = make([]api.Type, len(m.spots))
	m.markAssigned()
	return m
}

// markAssigned notes what the module assigns, wherever that is: names that may change are never narrowed.
func (m *module) markAssigned() {
	for at := range m.spots {
		if m.node(at).Kind != api.Assign {
			continue
		}
		if u, ok := m.useAt(m.kid(at, 0)); ok {
			m.assigned[u.Decl] = true
		}
	}
}

// useAt is the use at a place, if there is one; what it says is declared in the module, or is a builtin.
func (m *module) useAt(at int) (api.Use, bool) {
	i, ok := slices.BinarySearchFunc(m.uses, at, func(u api.Use, at int) int { return cmp.Compare(u.At, at) })
	if !ok || m.uses[i].Decl < 0 || m.uses[i].Decl >= len(m.spots) {
		return api.Use{}, false
	}
	return m.uses[i], true
}

// named tells whether a use is early.
func (m *module) named(u api.Use) named {
	return named{u, m.isPlain(u.Decl) && m.end(u.Decl) > u.At}
}

// isPlain tells whether a Let without a type stands at a place.
func (m *module) isPlain(at int) bool {
	return m.node(at).Kind == api.Let && m.node(m.kid(at, 0)).Kind == api.None
}

// seen is the type of a name as it is declared.
func (m *module) seen(n named) api.Type {
	if n.early {
		return anything()
	}
	t, asked := m.said[n.Decl]
	if !asked {
		t = m.declared(n.Use)
		m.said[n.Decl] = t
	}
	return t
}

// this is asked within classes alone.
func (m *module) this() api.Type {
	return anything()
}

// answer: there is none outside of functions.
func (m *module) answer() (api.Type, bool) {
	return api.Type{}, false
}

// declared is the type of what a use says.
func (m *module) declared(u api.Use) api.Type {
	switch kind := m.node(u.Decl).Kind; {
	case u.Kind == api.UseImport:
		return m.led(link.Target(m.linked, m.mod, u))
	case m.isPlain(u.Decl):
		return m.given[m.kid(u.Decl, 1)]
	case kind == api.Let, kind == api.Param:
		return m.saidAt(m.kid(u.Decl, 0))
	case kind == api.Function && u.Kind == api.UseLocal:
		if t, err := m.fn(u.Decl); err == api.OK {
			return t
		}
	case u.Kind == api.UseTop:
		return m.signed(m.mod, u.Name)
	}
	return anything()
}

// typeAt is what the type's tree at a place says.
func (m *module) typeAt(at int) (api.Type, api.Errno) {
	r, asked := m.read[at]
	if !asked {
		r.says, r.err = sign.Type(m.linked, m.signs, m.mod, *m.node(at))
		m.read[at] = r
	}
	return r.says, r.err
}

// saidAt is what the tree at a place says, where a type or None stands: any of None, and of a tree that says none, for the walk tells that at its own place.
func (m *module) saidAt(at int) api.Type {
	if m.node(at).Kind == api.None {
		return anything()
	}
	t, err := m.typeAt(at)
	if err != api.OK {
		return anything()
	}
	return t
}

// fn is the type of a function at a place; or the first error, of a tree in it or of its size.
func (m *module) fn(at int) (api.Type, api.Errno) {
	fn := api.Type{Kind: api.TypeFn}
	for _, tree := range m.typesOfFunction(at) {
		if m.node(tree).Kind != api.None {
			if _, err := m.typeAt(tree); err != api.OK {
				return api.Type{}, err
			}
		}
		fn.List = append(fn.List, m.saidAt(tree))
	}
	if types.Size(fn) > api.MaxType {
		return api.Type{}, api.ErrComplex
	}
	return fn, api.OK
}

// typesOfFunction are the places of the types, or Nones, of a function's Params and of its answer.
func (m *module) typesOfFunction(at int) []int {
	return append(m.typesOfParams(m.kid(at, 0)), m.kid(at, 1))
}

func (m *module) typesOfParams(params int) []int {
	var places []int
	for _, param := range m.kids(params) {
		places = append(places, m.kid(param, 0))
	}
	return places
}

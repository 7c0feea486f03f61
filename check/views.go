package check

import (
	"cmp"
	"slices"

	"gusset/api"
	"gusset/flow"
)

// A view is what can be seen from a place. The outermost one is that of a module; an inner one embeds the one around it, and tells itself only what is otherwise there.
type view interface {
	// seen is the type of a name.
	seen(n named) api.Type
	// this is the type of this.
	this() api.Type
	// answer is what a Return must fit, if there is anything.
	answer() (api.Type, bool)
}

// classView is the view from within a class.
type classView struct {
	view
	instance api.Type
}

func (v *classView) this() api.Type {
	return v.instance
}

// functionView is the view from within a function, whose answer has a type or has none.
type functionView struct {
	view
	answers api.Type
	typed   bool
}

func (v *functionView) answer() (api.Type, bool) {
	return v.answers, v.typed
}

// factsView is the view from where facts hold.
type factsView struct {
	view
	notes []*note // by rising declarations
}

// A note is what is known of a declaration, and what that leaves of its type, as far as it was asked: of uses that are not early, and of those that are.
type note struct {
	decl  int
	facts []api.Fact
	left  [2]api.Type
}

func compareNote(n *note, decl int) int {
	return cmp.Compare(n.decl, decl)
}

// seen narrows what is seen from outside, so that outer facts come ahead.
func (v *factsView) seen(n named) api.Type {
	i, ok := slices.BinarySearchFunc(v.notes, n.Decl, compareNote)
	if !ok {
		return v.view.seen(n)
	}
	left := &v.notes[i].left[0]
	if n.early {
		left = &v.notes[i].left[1]
	}
	if left.Kind == 0 {
		*left = v.view.seen(n)
		for _, f := range v.notes[i].facts {
			*left = flow.Narrow(*left, f)
		}
	}
	return *left
}

// add adds a fact behind those that are known of the same declaration.
func (v *factsView) add(decl int, f api.Fact) {
	i, ok := slices.BinarySearchFunc(v.notes, decl, compareNote)
	if !ok {
		v.notes = slices.Insert(v.notes, i, &note{decl: decl})
	}
	v.notes[i].facts = append(v.notes[i].facts, f)
}

// knowing is the view from where a condition is true, or is not.
func (m *module) knowing(v view, condition int, is bool) view {
	facts := flow.Facts(*m.node(condition), is)
	if len(facts) == 0 {
		return v
	}
	decls := m.declsIn(condition)
	inner := &factsView{view: v}
	for _, f := range facts {
		if decl, ok := decls[f.Name]; ok && !m.assigned[decl] {
			inner.add(decl, f)
		}
	}
	return inner
}

// declsIn are the declarations that the names of a condition say. Functions in it are left out: they have names of their own, and no fact comes from there.
func (m *module) declsIn(condition int) map[string]int {
	decls := map[string]int{}
	for at := condition; at < m.end(condition); at++ {
		switch n := m.node(at); n.Kind {
		case api.Func:
			at = m.end(at) - 1
		case api.Name:
			if u, ok := m.useAt(at); ok && u.Kind != api.UseBuiltin {
				decls[n.Text] = u.Decl
			}
		}
	}
	return decls
}

package check

import (
	"gusset/api"
)

// A walk goes over a module until a rule does not hold. From then on it goes nowhere, so that the first error stays.
type walk struct {
	*module
	at  int
	err api.Errno
}

func newWalk(p *program, mod int) *walk {
	return &walk{module: newModule(p, mod)}
}

func (w *walk) ended() bool {
	return w.err != api.OK
}

// fail ends the walk at a place.
func (w *walk) fail(at int, err api.Errno) {
	if !w.ended() {
		w.at, w.err = at, err
	}
}

// items walks the whole module.
func (w *walk) items() {
	w.list(0, w.module)
}

// list walks the items or statements of a tree; behind some it is known more than ahead of them.
func (w *walk) list(at int, v view) {
	for kid := at + 1; kid < w.end(at) && !w.ended(); kid = w.end(kid) {
		w.statement(kid, v)
		v = w.behind(kid, v)
	}
}

// behind is the view from behind a statement, in the same list.
func (w *walk) behind(at int, v view) view {
	if w.node(at).Kind != api.If {
		return v
	}
	condition := w.kid(at, 0)
	if w.leaves(w.kid(at, 1)) {
		v = w.knowing(v, condition, false)
	}
	if w.leaves(w.kid(at, 2)) {
		v = w.knowing(v, condition, true)
	}
	return v
}

// leaves tells whether a Block ends by a Return or Throw.
func (w *walk) leaves(at int) bool {
	statements := w.node(at).Kids
	if len(statements) == 0 {
		return false
	}
	last := statements[len(statements)-1].Kind
	return last == api.Return || last == api.Throw
}

// statement walks an item or a statement.
func (w *walk) statement(at int, v view) {
	switch w.node(at).Kind {
	case api.Let:
		w.let(at, v)
	case api.Function:
		w.function(at, v)
	case api.Class:
		w.class(at, v)
	case api.Alias:
		w.typed(w.kid(at, 0))
	case api.Expr, api.Throw:
		w.expr(w.kid(at, 0), v)
	case api.If:
		w.ifElse(at, v)
	case api.While:
		w.expr(w.kid(at, 0), v)
		w.list(w.kid(at, 1), w.knowing(v, w.kid(at, 0), true))
	case api.Return:
		w.returned(at, v)
	case api.Block:
		w.list(at, v)
	case api.Export:
		w.statement(w.kid(at, 0), v)
	case api.Default:
		w.standard(w.kid(at, 0), v)
	}
}

// standard walks what a Default holds.
func (w *walk) standard(at int, v view) {
	switch w.node(at).Kind {
	case api.Function, api.Class:
		w.statement(at, v)
	default:
		w.expr(at, v)
	}
}

// typed walks the tree at a place where a type or None stands, and tells whether it is a type.
func (w *walk) typed(at int) bool {
	if w.ended() || w.node(at).Kind == api.None {
		return false
	}
	_, err := w.typeAt(at)
	if err != api.OK {
		w.fail(at, err)
	}
	return true
}

// let walks a Let or a Field.
func (w *walk) let(at int, v view) {
	typed := w.typed(w.kid(at, 0))
	t := w.expr(w.kid(at, 1), v)
	if typed && !w.fits(t, w.saidAt(w.kid(at, 0))) {
		w.fail(at, api.ErrType)
	}
}

// function walks a Func, Function or Method, and is its type.
func (w *walk) function(at int, v view) api.Type {
	typed := false
	for _, tree := range w.typesOfFunction(at) {
		// The last one is the answer's.
		typed = w.typed(tree)
	}
	inner := &functionView{view: v, typed: typed}
	if typed {
		inner.answers = w.saidAt(w.kid(at, 1))
	}
	w.list(w.kid(at, 2), inner)
	t, err := w.fn(at)
	if err != api.OK {
		w.fail(at, err)
	}
	return t
}

// ctor walks a Ctor. A Return in it need not fit anything, for a class stands in no function.
func (w *walk) ctor(at int, v view) {
	for _, tree := range w.typesOfParams(w.kid(at, 0)) {
		w.typed(tree)
	}
	w.list(w.kid(at, 1), v)
}

func (w *walk) class(at int, v view) {
	inner := &classView{view: v, instance: anything()}
	if t := w.signed(w.mod, w.node(at).Text); t.Kind == api.TypeClass {
		inner.instance = api.Type{Kind: api.TypeInst, N: t.N}
	}
	for _, part := range w.kids(at) {
		switch w.node(part).Kind {
		case api.Field:
			w.let(part, inner)
		case api.Ctor:
			w.ctor(part, inner)
		case api.Method:
			w.function(part, inner)
		}
	}
}

func (w *walk) ifElse(at int, v view) {
	condition := w.kid(at, 0)
	w.expr(condition, v)
	w.list(w.kid(at, 1), w.knowing(v, condition, true))
	if other := w.kid(at, 2); w.node(other).Kind == api.Block {
		w.list(other, w.knowing(v, condition, false))
	}
}

func (w *walk) returned(at int, v view) {
	t := api.Type{Kind: api.TypeUndef}
	if w.node(w.kid(at, 0)).Kind != api.None {
		t = w.expr(w.kid(at, 0), v)
	}
	if answer, typed := v.answer(); typed && !w.fits(t, answer) {
		w.fail(at, api.ErrType)
	}
}

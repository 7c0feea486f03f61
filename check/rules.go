package check

import (
	"gusset/api"
	"gusset/types"
)

// expr walks an expression, and is its type.
func (w *walk) expr(at int, v view) api.Type {
	if w.ended() {
		return api.Type{}
	}
	t := w.rule(at, v)
	w.given[at] = t
	return t
}

// rule is the type of an expression by the rule of its kind, which walks what stands within first.
func (w *walk) rule(at int, v view) api.Type {
	switch n := w.node(at); n.Kind {
	case api.Num, api.Text, api.Bool, api.Null, api.Undef:
		return literal(n.Kind)
	case api.Name:
		return w.name(at, v)
	case api.This:
		return v.this()
	case api.Array:
		return w.array(at, v)
	case api.Object:
		return w.object(at, v)
	case api.Func:
		return w.function(at, v)
	case api.Unary:
		return w.unary(at, v)
	case api.Binary:
		return w.binary(at, v)
	case api.Cond:
		return w.cond(at, v)
	case api.Assign:
		return w.assign(at, v)
	case api.Call:
		return w.call(at, v)
	case api.New:
		return w.create(at, v)
	case api.Member:
		return w.member(at, v)
	case api.Index:
		return w.index(at, v)
	}
	return anything()
}

func literal(kind int) api.Type {
	switch kind {
	case api.Num:
		return api.Type{Kind: api.TypeNumber}
	case api.Text:
		return api.Type{Kind: api.TypeString}
	case api.Bool:
		return api.Type{Kind: api.TypeBoolean}
	case api.Null:
		return api.Type{Kind: api.TypeNull}
	}
	return api.Type{Kind: api.TypeUndef}
}

// refuse ends the walk at a tree to which no type can be given.
func (w *walk) refuse(at int) api.Type {
	w.fail(at, api.ErrType)
	return api.Type{}
}

// made is a type that was made, unless it is too large.
func (w *walk) made(at int, t api.Type, err api.Errno) api.Type {
	if err == api.OK && types.Size(t) > api.MaxType {
		err = api.ErrComplex
	}
	switch err {
	case api.OK:
		return t
	case api.ErrComplex:
		w.fail(at, err)
		return api.Type{}
	}
	return w.refuse(at)
}

// union is the type of a tree that is one of others.
func (w *walk) union(at int, l ...api.Type) api.Type {
	t, err := types.Union(l...)
	return w.made(at, t, err)
}

// exprs walks expressions.
func (w *walk) exprs(places []int, v view) []api.Type {
	var l []api.Type
	for _, at := range places {
		l = append(l, w.expr(at, v))
	}
	return l
}

// name is the type of the name that a Name or New has.
func (w *walk) name(at int, v view) api.Type {
	u, ok := w.useAt(at)
	switch {
	case !ok:
		return anything()
	case u.Kind == api.UseBuiltin:
		return builtin(u.Name)
	}
	return v.seen(w.named(u))
}

func (w *walk) array(at int, v view) api.Type {
	l := w.exprs(w.kids(at), v)
	if len(l) == 0 {
		l = append(l, anything())
	}
	return w.made(at, api.Type{Kind: api.TypeList, List: []api.Type{w.union(at, l...)}}, api.OK)
}

func (w *walk) object(at int, v view) api.Type {
	var slots []api.Slot
	last := map[string]int{}
	for _, prop := range w.kids(at) {
		name := w.node(prop).Text
		slot := api.Slot{Name: name, Type: w.expr(w.kid(prop, 0), v)}
		if i, twice := last[name]; twice {
			slots[i] = slot
			continue
		}
		last[name] = len(slots)
		slots = append(slots, slot)
	}
	t, err := types.Record(slots)
	return w.made(at, t, err)
}

func (w *walk) unary(at int, v view) api.Type {
	t := w.expr(w.kid(at, 0), v)
	switch w.node(at).Text {
	case "!":
		return api.Type{Kind: api.TypeBoolean}
	case "typeof":
		return api.Type{Kind: api.TypeString}
	}
	if !w.fitsKind(t, api.TypeNumber) {
		return w.refuse(at)
	}
	return api.Type{Kind: api.TypeNumber}
}

// binary knows on the right of && and || what the left was.
func (w *walk) binary(at int, v view) api.Type {
	left, right := w.kid(at, 0), w.kid(at, 1)
	a := w.expr(left, v)
	switch text := w.node(at).Text; text {
	case "&&", "||":
		return w.union(at, a, w.expr(right, w.knowing(v, left, text == "&&")))
	case "===", "!==":
		w.expr(right, v)
		return api.Type{Kind: api.TypeBoolean}
	case "<", "<=", ">", ">=":
		return w.compared(at, a, w.expr(right, v))
	case "+":
		return w.sum(at, a, w.expr(right, v))
	}
	if b := w.expr(right, v); !w.bothFit(a, b, api.TypeNumber) {
		return w.refuse(at)
	}
	return api.Type{Kind: api.TypeNumber}
}

func (w *walk) bothFit(a, b api.Type, kind int) bool {
	return w.fitsKind(a, kind) && w.fitsKind(b, kind)
}

func (w *walk) compared(at int, a, b api.Type) api.Type {
	if !w.bothFit(a, b, api.TypeNumber) && !w.bothFit(a, b, api.TypeString) {
		return w.refuse(at)
	}
	return api.Type{Kind: api.TypeBoolean}
}

func (w *walk) sum(at int, a, b api.Type) api.Type {
	switch {
	case a.Kind == api.TypeAny || b.Kind == api.TypeAny:
		return anything()
	case w.bothFit(a, b, api.TypeNumber):
		return api.Type{Kind: api.TypeNumber}
	case w.isShown(a) && w.isShown(b) && (w.fitsKind(a, api.TypeString) || w.fitsKind(b, api.TypeString)):
		return api.Type{Kind: api.TypeString}
	}
	return w.refuse(at)
}

// isShown tells whether a type may be a part of a text that is put together.
func (w *walk) isShown(t api.Type) bool {
	return w.fits(t, api.Type{Kind: api.TypeEither, List: []api.Type{{Kind: api.TypeNumber}, {Kind: api.TypeString}, {Kind: api.TypeBoolean}}})
}

func (w *walk) cond(at int, v view) api.Type {
	condition := w.kid(at, 0)
	w.expr(condition, v)
	a := w.expr(w.kid(at, 1), w.knowing(v, condition, true))
	b := w.expr(w.kid(at, 2), w.knowing(v, condition, false))
	return w.union(at, a, b)
}

func (w *walk) assign(at int, v view) api.Type {
	target := w.kid(at, 0)
	// A Name that is a target is narrowed by no fact.
	old := w.expr(target, v)
	t := w.expr(w.kid(at, 1), v)
	if !w.isAssignable(target) || !w.fits(t, old) {
		return w.refuse(at)
	}
	return t
}

// isAssignable tells whether what a target is of may be changed.
func (w *walk) isAssignable(target int) bool {
	of := w.given[w.kid(target, 0)].Kind
	switch w.node(target).Kind {
	case api.Name:
		return true
	case api.Member:
		return of == api.TypeAny || of == api.TypeRecord || of == api.TypeInst
	}
	return of == api.TypeAny || of == api.TypeList
}

func (w *walk) call(at int, v view) api.Type {
	fn := w.expr(w.kid(at, 0), v)
	arguments := w.kids(at)
	arguments = arguments[min(1, len(arguments)):]
	w.exprs(arguments, v)
	last := len(fn.List) - 1
	switch {
	case fn.Kind == api.TypeAny:
		return anything()
	case fn.Kind != api.TypeFn || last < 0:
		return w.refuse(at)
	}
	w.pass(at, arguments, fn.List[:last])
	return fn.List[last]
}

// pass holds the arguments of a Call or New against the parameters.
func (w *walk) pass(at int, arguments []int, params []api.Type) {
	if len(arguments) != len(params) {
		w.fail(at, api.ErrType)
		return
	}
	for i, argument := range arguments {
		if !w.fits(w.given[argument], params[i]) {
			w.fail(argument, api.ErrType)
		}
	}
}

func (w *walk) create(at int, v view) api.Type {
	arguments := w.kids(at)
	w.exprs(arguments, v)
	class := w.name(at, v)
	switch class.Kind {
	case api.TypeAny:
		return class
	case api.TypeClass:
		w.pass(at, arguments, w.classParams(class.N))
		return api.Type{Kind: api.TypeInst, N: class.N}
	}
	return w.refuse(at)
}

func (w *walk) member(at int, v view) api.Type {
	of := w.expr(w.kid(at, 0), v)
	t, ok := w.memberOf(of, w.node(at).Text)
	if !ok {
		return w.refuse(at)
	}
	return t
}

func (w *walk) index(at int, v view) api.Type {
	of, key := w.expr(w.kid(at, 0), v), w.expr(w.kid(at, 1), v)
	switch {
	case of.Kind == api.TypeAny:
		return of
	case of.Kind == api.TypeList && len(of.List) > 0 && w.fitsKind(key, api.TypeNumber):
		return of.List[0]
	case of.Kind == api.TypeString && w.fitsKind(key, api.TypeNumber):
		return of
	}
	return w.refuse(at)
}

package scope

import (
	"iter"
	"strings"

	"gusset/api"
)

// A resolver knows a tree's tops ahead of the walk, and gathers what the walk comes by.
type resolver struct {
	sizes    []int  // of the tree at each place
	names    *scope // the tops, within the builtins
	alone    *scope // the tops, within nothing
	exported map[string]struct{}
	tops     []api.Top
	uses     []api.Use
}

func newResolver(whole api.Node) *resolver {
	builtins := within(nil)
	for _, name := range Builtins() {
		builtins.declare(name, declared{use: api.UseBuiltin})
	}
	r := &resolver{sizes: sizes(whole), names: within(builtins), exported: map[string]struct{}{}}
	r.alone = &scope{names: r.names.names}
	item := 0
	for at, n := range r.kids(whole, 0) {
		r.declareItem(n, at, item)
		item++
	}
	return r
}

// sizes are told by one walk: to ask each Block for its kids' sizes anew would take far longer where many are nested.
func sizes(whole api.Node) []int {
	var l []int
	var count func(n api.Node)
	count = func(n api.Node) {
		at := len(l)
		l = append(l, 0)
		for _, k := range n.Kids {
			count(k)
		}
		l[at] = len(l) - at
	}
	count(whole)
	return l
}

// kids goes over the kids of the tree at a place, with their places.
func (r *resolver) kids(n api.Node, at int) iter.Seq2[int, api.Node] {
	return func(yield func(int, api.Node) bool) {
		next := at + 1
		for _, k := range n.Kids {
			if !yield(next, k) {
				return
			}
			next += r.sizes[next]
		}
	}
}

// declareItem adds what an item declares, itself or by a tree in it.
func (r *resolver) declareItem(n api.Node, at, item int) {
	r.declareTop(n, at, item)
	switch n.Kind {
	case api.Export, api.Default, api.Import:
		for place, k := range r.kids(n, at) {
			r.declareTop(k, place, item)
		}
	}
}

func (r *resolver) declareTop(n api.Node, at, item int) {
	name := declares(n)
	if name == "" {
		return
	}
	use := api.UseTop
	if n.Kind == api.ImportOne {
		use = api.UseImport
	}
	d := declaredBy(n, at, use)
	r.names.declare(name, d)
	r.tops = append(r.tops, api.Top{Name: strings.Clone(name), Kind: n.Kind, At: at, Item: item, Const: !d.free})
}

// A where is what stands around a tree.
type where struct {
	scope   *scope
	parent  api.Node
	this    bool // there is an object that This says
	returns bool // there is a call that a Return ends
}

// walk goes over all places up to the first error, whose place it tells.
func (r *resolver) walk(whole api.Node) (int, api.Errno) {
	at := 0
	var visit func(n api.Node, w where) api.Errno
	visit = func(n api.Node, w where) api.Errno {
		if err := r.look(n, at, w); err != api.OK {
			return err
		}
		w = r.enter(n, at, w)
		for _, k := range n.Kids {
			at++
			if err := visit(k, w); err != api.OK {
				return err
			}
		}
		return api.OK
	}
	err := visit(whole, where{scope: r.names})
	return at, err
}

// enter is what stands around the kids of a tree.
func (r *resolver) enter(n api.Node, at int, w where) where {
	w.parent = n
	switch n.Kind {
	case api.Field:
		w.this = true
	case api.Ctor, api.Method:
		w.this, w.returns = true, true
	case api.Function:
		w.this, w.returns = false, true
	case api.Func:
		w.returns = true
	}
	switch n.Kind {
	case api.Func, api.Function, api.Ctor, api.Method:
		w.scope = within(w.scope)
		for place, param := range r.kids(n.Kids[0], at+1) {
			w.scope.declare(param.Text, declaredBy(param, place, api.UseLocal))
		}
	case api.Block:
		w.scope = within(w.scope)
		for place, k := range r.kids(n, at) {
			if name := declares(k); name != "" {
				w.scope.declare(name, declaredBy(k, place, api.UseLocal))
			}
		}
	}
	return w
}

// look tells the first error at a place, and adds the use that stands there.
func (r *resolver) look(n api.Node, at int, w where) api.Errno {
	if r.twice(n, at, w) {
		return api.ErrTwice
	}
	if name, in := r.asked(n, w); in != nil {
		return r.use(n, at, name, in)
	}
	switch n.Kind {
	case api.Assign:
		if fixed(n.Kids[0], w) {
			return api.ErrConst
		}
	case api.This:
		if !w.this {
			return api.ErrThis
		}
	case api.Return:
		if !w.returns {
			return api.ErrThis
		}
	}
	return api.OK
}

// fixed tells whether the target of an Assign is a Name of what may not be assigned.
func fixed(target api.Node, w where) bool {
	if target.Kind != api.Name {
		return false
	}
	d, says := w.scope.find(target.Text)
	return says && !d.free
}

// twice tells whether a tree declares, or exports, what another one ahead of it does.
func (r *resolver) twice(n api.Node, at int, w where) bool {
	if name := declares(n); name != "" && w.scope.names[name].at != at {
		return true
	}
	name := exports(n)
	if name == "" {
		return false
	}
	_, has := r.exported[name]
	r.exported[name] = struct{}{}
	return has
}

// asked is the name that a tree uses, and the scope in which it is looked for; none, if it is no use.
func (r *resolver) asked(n api.Node, w where) (string, *scope) {
	switch n.Kind {
	case api.Name:
		if w.parent.Kind != api.ImportOne && w.parent.Kind != api.ExportOne {
			return n.Text, w.scope
		}
	case api.New:
		return n.Text, w.scope
	case api.ExportOne:
		if w.parent.Text == "" {
			return n.Text, r.alone
		}
	case api.TypeName:
		if !basic(n.Text) {
			return n.Text, r.alone
		}
	}
	return "", nil
}

// use adds a use, unless nothing says its name, or what may not stand there.
func (r *resolver) use(n api.Node, at int, name string, in *scope) api.Errno {
	d, says := in.find(name)
	if !says {
		return api.ErrName
	}
	if n.Kind == api.TypeName && !d.typed() {
		return api.ErrName
	}
	if (n.Kind == api.Name || n.Kind == api.New) && d.kind == api.Alias {
		return api.ErrName
	}
	r.uses = append(r.uses, api.Use{At: at, Kind: d.use, Decl: d.at, Name: strings.Clone(name), Type: n.Kind == api.TypeName})
	return api.OK
}

package sign

import (
	"gusset/api"
	"gusset/link"
	"gusset/types"
)

// A reader tells what trees of types say. What it answers may share memory with what it knows.
type reader struct {
	linked  api.Linked
	earlier api.Signs            // what Sign answered; nothing, while it is at work
	known   map[binding]api.Type // what classes and aliases declare, as far as it was found out
	trees   map[binding]api.Node // those of the aliases
	asked   map[binding]struct{} // the aliases that were asked for
}

// An opened tree is one whose parts are read, from the left on, ahead of the whole.
type opened struct {
	mod   int
	parts []api.Node // those that are left
	types []api.Type // what those ahead of them say
	whole func(parts []api.Type) (api.Type, api.Errno)
}

// read is what a tree says in a module.
func (r *reader) read(mod int, n api.Node) (api.Type, api.Errno) {
	o, err := r.open(mod, n)
	if err != api.OK {
		return api.Type{}, err
	}
	return r.finish(o)
}

// readTop is what a class or alias says.
func (r *reader) readTop(b binding) (api.Type, api.Errno) {
	o, err := r.openTop(b)
	if err != api.OK {
		return api.Type{}, err
	}
	return r.finish(o)
}

// finish reads a tree that is opened. It has its stack itself, for aliases may lead to one another as far as they like.
func (r *reader) finish(o opened) (api.Type, api.Errno) {
	stack := []opened{o}
	for {
		top := &stack[len(stack)-1]
		if len(top.parts) > 0 {
			next, err := r.open(top.mod, top.parts[0])
			if err != api.OK {
				return api.Type{}, err
			}
			top.parts = top.parts[1:]
			stack = append(stack, next)
			continue
		}
		t, err := top.whole(top.types)
		if err != api.OK {
			return api.Type{}, err
		}
		stack = stack[:len(stack)-1]
		if len(stack) == 0 {
			return t, api.OK
		}
		below := &stack[len(stack)-1]
		below.types = append(below.types, t)
	}
}

// open opens a type's tree; also None, where a type might stand, and a Function or Method, of which its type is read.
func (r *reader) open(mod int, n api.Node) (opened, api.Errno) {
	switch n.Kind {
	case api.None:
		return leaf(api.Type{Kind: api.TypeAny}), api.OK
	case api.TypeName:
		return r.openName(mod, n.Text)
	case api.TypeArray:
		return opened{mod: mod, parts: n.Kids, whole: listOf}, api.OK
	case api.TypeUnion:
		return opened{mod: mod, parts: n.Kids, whole: unionOf}, api.OK
	case api.TypeObject:
		return opened{mod: mod, parts: firstKids(n.Kids), whole: recordOf(n.Kids)}, api.OK
	case api.TypeFunc, api.Function, api.Method:
		return opened{mod: mod, parts: append(paramTypes(n), kid(n, 1)), whole: fnOf}, api.OK
	}
	return opened{}, api.ErrType
}

// openName opens what a name says in a module: an import the top to which it leads, any other name the module's own one.
func (r *reader) openName(mod int, name string) (opened, api.Errno) {
	if kind := basic(name); kind != 0 {
		return leaf(api.Type{Kind: kind}), api.OK
	}
	b := binding{mod, name}
	if f := link.Target(r.linked, mod, api.Use{Kind: api.UseImport, Name: name}); f.Kind == api.FoundOne {
		b = binding{f.Mod, f.Name}
	}
	return r.openTop(b)
}

// openTop opens what a class or alias says.
func (r *reader) openTop(b binding) (opened, api.Errno) {
	if t, ok := r.find(b); ok {
		return leaf(instance(t)), api.OK
	}
	tree, isAlias := r.trees[b]
	_, isAsked := r.asked[b]
	if !isAlias || isAsked {
		return opened{}, api.ErrType
	}
	r.asked[b] = struct{}{}
	keep := func(parts []api.Type) (api.Type, api.Errno) {
		r.known[b] = parts[0]
		return parts[0], api.OK
	}
	return opened{mod: b.mod, parts: []api.Node{tree}, whole: keep}, api.OK
}

// leaf has no parts, and is known already.
func leaf(t api.Type) opened {
	return opened{whole: func([]api.Type) (api.Type, api.Errno) { return t, api.OK }}
}

// instance turns what a class declares into what its name says as a type; an alias says what it declares.
func instance(t api.Type) api.Type {
	if t.Kind == api.TypeClass {
		t.Kind = api.TypeInst
	}
	return t
}

func listOf(parts []api.Type) (api.Type, api.Errno) {
	return checked(api.Type{Kind: api.TypeList, List: parts})
}

func fnOf(parts []api.Type) (api.Type, api.Errno) {
	return checked(api.Type{Kind: api.TypeFn, List: parts})
}

func unionOf(parts []api.Type) (api.Type, api.Errno) {
	return types.Union(parts...)
}

func recordOf(props []api.Node) func(parts []api.Type) (api.Type, api.Errno) {
	return func(parts []api.Type) (api.Type, api.Errno) {
		slots := make([]api.Slot, len(props))
		for i, p := range props {
			slots[i] = api.Slot{Name: p.Text, Type: parts[i]}
		}
		return types.Record(slots)
	}
}

func checked(t api.Type) (api.Type, api.Errno) {
	if err := types.Check(t); err != api.OK {
		return api.Type{}, err
	}
	return t, api.OK
}

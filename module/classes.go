package module

import (
	"slices"

	"gusset/api"
	"gusset/cursor"
	"gusset/parse"
)

// members are those of a class, in the order in which they come; the tree has one list behind the other.
type members struct {
	fields, ctors, methods []api.Node
	names                  cursor.Names
}

// class reads from the class on.
func (r *reader) class() api.Node {
	r.Pass()
	name := r.Id()
	r.Want("{")
	// No field and no method is named so: it counts as one that stood already.
	m := &members{names: cursor.Names{"constructor": {}}}
	for !r.Take("}") {
		r.member(m)
	}
	return cursor.Node(api.Class, name, slices.Concat(m.fields, m.ctors, m.methods)...)
}

func (r *reader) member(m *members) {
	if cursor.IsName(r.Token(), "constructor") && cursor.IsSign(r.Ahead(1), "(") {
		r.ctor(m)
		return
	}
	r.Add(m.names)
	name := r.Prop()
	if r.Stands("(") {
		m.methods = append(m.methods, cursor.Node(api.Method, name, r.Params(r.typeOrNone), r.typeOrNone(), r.Block(r.stmt)))
	} else {
		m.fields = append(m.fields, r.field(name))
	}
}

// ctor reads the constructor, which may be just one.
func (r *reader) ctor(m *members) {
	if len(m.ctors) > 0 {
		panic(r.Wrong())
	}
	r.Pass()
	m.ctors = append(m.ctors, cursor.Node(api.Ctor, "", r.Params(r.typeOrNone), r.Block(r.stmt)))
}

// field reads what stands behind a field's name.
func (r *reader) field(name string) api.Node {
	declared := r.typeOrNone()
	r.Want("=")
	return r.ended(cursor.Node(api.Field, name, declared, r.by(parse.Expr)))
}

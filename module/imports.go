package module

import (
	"strings"

	"gusset/api"
	"gusset/cursor"
)

// imports reads from the import on.
func (r *reader) imports() api.Node {
	r.Pass()
	n := api.Node{Kind: api.Import}
	if r.Token().Kind != api.TokenText {
		if r.typesAlone() {
			r.Pass()
			n.N = 1
		}
		n.Kids = r.clause(n.N == 1)
		r.from()
	}
	n.Text = r.request()
	return r.ended(n)
}

// typesAlone tells whether the type here says that, and is no default's name.
func (r *reader) typesAlone() bool {
	if !cursor.IsName(r.Token(), "type") {
		return false
	}
	next := r.Ahead(1)
	if cursor.IsName(next, "from") {
		return r.Ahead(2).Kind != api.TokenText
	}
	return next.Kind == api.TokenName || cursor.IsSign(next, "{")
}

// clause reads the ImportOnes of an import: of types alone there is one at least, and no *.
func (r *reader) clause(types bool) []api.Node {
	var l []api.Node
	if r.StandsId() {
		l = append(l, importAs(strings.Clone("default"), r.Id()))
		if !r.Take(",") {
			return l
		}
	}
	if !types && r.Stands("*") {
		return append(l, r.star())
	}
	r.Want("{")
	if types && len(l) == 0 && r.Stands("}") {
		panic(r.Wrong())
	}
	return append(l, r.List("}", r.importOne)...)
}

func importAs(there, here string) api.Node {
	return cursor.Node(api.ImportOne, there, cursor.Node(api.Name, here))
}

// star reads the * of all names, and the name here.
func (r *reader) star() api.Node {
	all := r.Pass()
	if !r.TakeName("as") {
		panic(r.Wrong())
	}
	return importAs(all, r.Id())
}

func (r *reader) importOne() api.Node {
	alone := r.StandsId()
	there := r.Prop()
	if r.TakeName("as") {
		return importAs(there, r.Id())
	}
	if !alone {
		panic(r.Wrong())
	}
	return importAs(there, strings.Clone(there))
}

// from goes behind the from, which must be here.
func (r *reader) from() {
	if !r.TakeName("from") {
		panic(r.Wrong())
	}
}

// request goes behind a text, which must be here, and tells it.
func (r *reader) request() string {
	if r.Token().Kind != api.TokenText {
		panic(r.Wrong())
	}
	return r.Pass()
}

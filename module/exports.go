package module

import (
	"gusset/api"
	"gusset/cursor"
	"gusset/parse"
)

// exports reads from the export on.
func (r *reader) exports() api.Node {
	r.Pass()
	switch {
	case r.TakeWord("default"):
		return cursor.Node(api.Default, "", r.defaulted()())
	case r.Stands("*"):
		return r.exportAll()
	case r.Stands("{"):
		return r.exportNames(0)
	case cursor.IsName(r.Token(), "type") && cursor.IsSign(r.Ahead(1), "{"):
		r.Pass()
		return r.exportNames(1)
	}
	return cursor.Node(api.Export, "", r.declared()())
}

// declared chooses among the declarations that may be exported.
func (r *reader) declared() func() api.Node {
	switch {
	case r.StandsWord("let"), r.StandsWord("const"), r.StandsWord("function"):
		return r.stmt
	case r.StandsWord("class"):
		return r.class
	case cursor.IsName(r.Token(), "type"):
		return r.alias
	}
	panic(r.Wrong())
}

// defaulted chooses among what may stand behind export default.
func (r *reader) defaulted() func() api.Node {
	switch {
	case r.StandsWord("function"):
		return r.stmt
	case r.StandsWord("class"):
		return r.class
	}
	return r.defaultExpr
}

func (r *reader) defaultExpr() api.Node {
	return r.ended(r.by(parse.Expr))
}

// exportAll reads from the * on.
func (r *reader) exportAll() api.Node {
	one := cursor.Node(api.ExportOne, r.Pass(), cursor.Node(api.None, ""))
	if r.TakeName("as") {
		one.Kids[0] = cursor.Node(api.Name, r.Prop())
	}
	r.from()
	return r.ended(cursor.Node(api.ExportFrom, r.requested(), one))
}

// exportNames reads from the { on; types is 1, if they are of types alone.
func (r *reader) exportNames(types int) api.Node {
	n := api.Node{Kind: api.ExportFrom, N: types}
	r.Pass()
	if r.Stands("}") {
		panic(r.Wrong())
	}
	here := true // whether all of them may be this module's own
	n.Kids = r.List("}", func() api.Node {
		here = here && r.StandsId()
		return r.exportOne()
	})
	if !here || !r.Stands(";") {
		r.from()
		n.Text = r.requested()
	}
	return r.ended(n)
}

func (r *reader) exportOne() api.Node {
	there := r.Prop()
	if r.TakeName("as") {
		if name := r.Prop(); name != there {
			return cursor.Node(api.ExportOne, there, cursor.Node(api.Name, name))
		}
	}
	return cursor.Node(api.ExportOne, there, cursor.Node(api.None, ""))
}

// requested reads the text behind an export's from, which is not empty: that would say this module.
func (r *reader) requested() string {
	if r.Token().Text == "" {
		panic(r.Wrong())
	}
	return r.request()
}

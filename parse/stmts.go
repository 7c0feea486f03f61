package parse

import "gusset/api"

func (r *reader) block() api.Node {
	r.want("{")
	var l []api.Node
	for !r.take("}") {
		l = append(l, r.aStmt())
	}
	return node(api.Block, "", l...)
}

func (r *reader) aStmt() api.Node {
	r.begin()
	n := r.anyStmt()
	r.end()
	return n
}

func (r *reader) anyStmt() api.Node {
	switch {
	case r.takeWord("let"):
		return r.let(0)
	case r.takeWord("const"):
		return r.let(1)
	case r.takeWord("function"):
		return node(api.Function, r.id(), r.params(false), r.typeOrNone(), r.block())
	case r.takeWord("if"):
		return node(api.If, "", r.condition(), r.block(), r.elseOrNone())
	case r.takeWord("while"):
		return node(api.While, "", r.condition(), r.block())
	case r.takeWord("return"):
		return r.ended(node(api.Return, "", r.exprOrNone()))
	case r.takeWord("throw"):
		return r.ended(node(api.Throw, "", r.anExpr()))
	case r.stands("{"):
		return r.block()
	}
	return r.ended(node(api.Expr, "", r.anExpr()))
}

// ended wants the ; that ends a statement.
func (r *reader) ended(n api.Node) api.Node {
	r.want(";")
	return n
}

// let reads what stands behind a let (0) or a const (1).
func (r *reader) let(fixed int) api.Node {
	n := api.Node{Kind: api.Let, Text: r.id(), N: fixed}
	declared := r.typeOrNone()
	r.want("=")
	n.Kids = []api.Node{declared, r.anExpr()}
	return r.ended(n)
}

// condition reads an Expr in brackets.
func (r *reader) condition() api.Node {
	r.want("(")
	n := r.anExpr()
	r.want(")")
	return n
}

// elseOrNone reads an else with what stands behind it, or nothing, which is a None.
func (r *reader) elseOrNone() api.Node {
	if !r.takeWord("else") {
		return node(api.None, "")
	}
	if r.standsWord("if") {
		return node(api.Block, "", r.aStmt())
	}
	return r.block()
}

// exprOrNone reads what a return answers: nothing, which is a None, ahead of a ;.
func (r *reader) exprOrNone() api.Node {
	if r.stands(";") {
		return node(api.None, "")
	}
	return r.anExpr()
}

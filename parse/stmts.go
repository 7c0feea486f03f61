package parse

import (
	"gusset/api"
	"gusset/cursor"
)

func (r *reader) block() api.Node {
	return r.Block(r.aStmt)
}

func (r *reader) aStmt() api.Node {
	r.begin()
	n := r.anyStmt()
	r.end()
	return n
}

func (r *reader) anyStmt() api.Node {
	switch {
	case r.TakeWord("let"):
		return r.let(0)
	case r.TakeWord("const"):
		return r.let(1)
	case r.TakeWord("function"):
		return cursor.Node(api.Function, r.Id(), r.Params(r.typeOrNone), r.typeOrNone(), r.block())
	case r.TakeWord("if"):
		return cursor.Node(api.If, "", r.condition(), r.block(), r.elseOrNone())
	case r.TakeWord("while"):
		return cursor.Node(api.While, "", r.condition(), r.block())
	case r.TakeWord("return"):
		return r.ended(cursor.Node(api.Return, "", r.exprOrNone()))
	case r.TakeWord("throw"):
		return r.ended(cursor.Node(api.Throw, "", r.anExpr()))
	case r.Stands("{"):
		return r.block()
	}
	return r.ended(cursor.Node(api.Expr, "", r.anExpr()))
}

// ended wants the ; that ends a statement.
func (r *reader) ended(n api.Node) api.Node {
	r.Want(";")
	return n
}

// let reads what stands behind a let (0) or a const (1).
func (r *reader) let(fixed int) api.Node {
	n := api.Node{Kind: api.Let, Text: r.Id(), N: fixed}
	declared := r.typeOrNone()
	r.Want("=")
	n.Kids = []api.Node{declared, r.anExpr()}
	return r.ended(n)
}

// condition reads an Expr in brackets.
func (r *reader) condition() api.Node {
	r.Want("(")
	n := r.anExpr()
	r.Want(")")
	return n
}

// elseOrNone reads an else with what stands behind it, or nothing, which is a None.
func (r *reader) elseOrNone() api.Node {
	if !r.TakeWord("else") {
		return cursor.Node(api.None, "")
	}
	if r.StandsWord("if") {
		return cursor.Node(api.Block, "", r.aStmt())
	}
	return r.block()
}

// exprOrNone reads what a return answers: nothing, which is a None, ahead of a ;.
func (r *reader) exprOrNone() api.Node {
	if r.Stands(";") {
		return cursor.Node(api.None, "")
	}
	return r.anExpr()
}

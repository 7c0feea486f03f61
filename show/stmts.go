package show

import "gusset/api"

func stmt(n api.Node) piece {
	switch n.Kind {
	case api.Let:
		return let(n)
	case api.Function:
		return row{said("function " + n.Text), callable(n)}
	case api.Expr:
		return row{leading(n.Kids[0]), said(";")}
	case api.If:
		return row{said("if "), controlled(n), otherwise(n.Kids[2])}
	case api.While:
		return row{said("while "), controlled(n)}
	case api.Return:
		return answered(n.Kids[0])
	case api.Throw:
		return row{said("throw "), anyExpr(n.Kids[0]), said(";")}
	}
	return block(n) // Block
}

func block(n api.Node) piece {
	return inside(each(n.Kids, stmt))
}

func let(n api.Node) piece {
	word := said("let ")
	if n.N == 1 {
		word = "const "
	}
	return row{word, valued(n)}
}

// valued is a Let or a Field from its name on.
func valued(n api.Node) piece {
	return row{said(n.Text), typing(n.Kids[0]), said(" = "), anyExpr(n.Kids[1]), said(";")}
}

// callable is a Func, Function or Method from its params on.
func callable(n api.Node) piece {
	return row{params(n.Kids[0]), typing(n.Kids[1]), said(" "), block(n.Kids[2])}
}

// controlled is the condition of an If or While, and the Block that hangs on it.
func controlled(n api.Node) piece {
	return row{brackets(anyExpr(n.Kids[0])), said(" "), block(n.Kids[1])}
}

// otherwise is the else of an If, or nothing.
func otherwise(n api.Node) piece {
	if n.Kind == api.None {
		return row{}
	}
	return row{said(" else "), block(n)}
}

// answered is a Return of that expression, or of nothing.
func answered(n api.Node) piece {
	if n.Kind == api.None {
		return said("return;")
	}
	return row{said("return "), anyExpr(n), said(";")}
}

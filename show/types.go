package show

import "gusset/api"

func typ(n api.Node) piece {
	switch n.Kind {
	case api.TypeArray:
		return row{element(n.Kids[0]), said("[]")}
	case api.TypeUnion:
		return list(n.Kids, " | ", member)
	case api.TypeObject:
		return braces(list(n.Kids, " ", typeProp))
	case api.TypeFunc:
		return row{params(n.Kids[0]), said(" => "), typ(n.Kids[1])}
	}
	return said(n.Text) // TypeName
}

// element is the type of which a TypeArray is.
func element(n api.Node) piece {
	if n.Kind == api.TypeUnion {
		return brackets(typ(n))
	}
	return member(n)
}

// member is a type of a TypeUnion.
func member(n api.Node) piece {
	if n.Kind == api.TypeFunc {
		return brackets(typ(n))
	}
	return typ(n)
}

func typeProp(n api.Node) piece {
	return row{said(n.Text + ": "), typ(n.Kids[0]), said(";")}
}

// typing is the type behind what has one, or nothing.
func typing(n api.Node) piece {
	if n.Kind == api.None {
		return row{}
	}
	return row{said(": "), typ(n)}
}

func params(n api.Node) piece {
	return brackets(list(n.Kids, ", ", param))
}

func param(n api.Node) piece {
	return row{said(n.Text), typing(n.Kids[0])}
}

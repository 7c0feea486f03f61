package show

import (
	"gusset/api"
	"gusset/runes"
)

// item is a statement, or what a module or a script alone may have.
func item(n api.Node) piece {
	switch n.Kind {
	case api.Class:
		return row{said("class " + n.Text + " "), inside(each(n.Kids, classMember))}
	case api.Alias:
		return row{said("type " + n.Text + " = "), typ(n.Kids[0]), said(";")}
	case api.Import:
		return imported(n)
	case api.Export:
		return row{said("export "), item(n.Kids[0])}
	case api.Default:
		return row{said("export default "), defaulted(n.Kids[0])}
	case api.ExportFrom:
		return exported(n)
	case api.Space:
		return row{said("namespace " + n.Text + " "), inside(each(n.Kids, spaceOne))}
	}
	return stmt(n)
}

func classMember(n api.Node) piece {
	switch n.Kind {
	case api.Ctor:
		return row{said("constructor"), params(n.Kids[0]), said(" "), block(n.Kids[1])}
	case api.Method:
		return row{said(n.Text), callable(n)}
	}
	return valued(n) // Field
}

func spaceOne(n api.Node) piece {
	return said(n.Text + " = " + n.Kids[0].Text + ";")
}

func defaulted(n api.Node) piece {
	if n.Kind == api.Function || n.Kind == api.Class {
		return item(n)
	}
	return row{leading(n), said(";")}
}

func imported(n api.Node) piece {
	request := said(runes.Quote(n.Text) + ";")
	if len(n.Kids) == 0 {
		return row{said("import "), request}
	}
	return row{said("import "), ofTypes(n), clause(n.Kids), said(" from "), request}
}

// ofTypes is the word that an item of types alone has.
func ofTypes(n api.Node) piece {
	if n.N == 1 {
		return said("type ")
	}
	return row{}
}

// clause is all that an Import names, the default of it ahead without a bracket.
func clause(l []api.Node) piece {
	if l[0].Text != "default" {
		return names(l)
	}
	first := said(l[0].Kids[0].Text)
	if len(l) == 1 {
		return first
	}
	return row{first, said(", "), names(l[1:])}
}

// names are ImportOnes or ExportOnes. A * among them stands alone.
func names(l []api.Node) piece {
	if l[0].Text == "*" {
		return named(l[0])
	}
	return braces(list(l, ", ", named))
}

// named is the name there, and the other one behind it, if there is one that differs.
func named(n api.Node) piece {
	other := n.Kids[0]
	if other.Kind == api.None || other.Text == n.Text {
		return said(n.Text)
	}
	return said(n.Text + " as " + other.Text)
}

func exported(n api.Node) piece {
	r := row{said("export "), ofTypes(n), names(n.Kids)}
	if n.Text != "" {
		r = append(r, said(" from "+runes.Quote(n.Text)))
	}
	return append(r, said(";"))
}

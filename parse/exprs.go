package parse

import (
	"strings"

	"gusset/api"
	"gusset/cursor"
)

func (r *reader) anExpr() api.Node {
	r.begin()
	n := r.cond()
	if r.Stands("=") {
		n = r.assign(n)
	}
	r.end()
	return n
}

// assign reads the = here and what stands behind it.
func (r *reader) assign(target api.Node) api.Node {
	switch target.Kind {
	case api.Name, api.Member, api.Index:
		r.Pass()
		return cursor.Node(api.Assign, "", target, r.anExpr())
	}
	panic(r.Wrong())
}

func (r *reader) cond() api.Node {
	n := r.binary(1)
	if !r.Take("?") {
		return n
	}
	then := r.anExpr()
	r.Want(":")
	return cursor.Node(api.Cond, "", n, then, r.anExpr())
}

// lineOf is the line of a binary operator, of which the first binds least; 0, if the token is none.
func lineOf(t api.Token) int {
	if t.Kind != api.TokenSign {
		return 0
	}
	switch t.Text {
	case "||":
		return 1
	case "&&":
		return 2
	case "===", "!==":
		return 3
	case "<", "<=", ">", ">=":
		return 4
	case "+", "-":
		return 5
	case "*", "/", "%":
		return 6
	}
	return 0
}

// binary reads operands with operators of that line and of those that bind more.
func (r *reader) binary(least int) api.Node {
	n := r.unary()
	for {
		line := lineOf(r.Token())
		if line < least {
			return n
		}
		sign := r.Pass()
		// The right one ends ahead of the next operator of the same line: those are taken from the left on.
		n = cursor.Node(api.Binary, sign, n, r.binary(line+1))
	}
}

func (r *reader) unary() api.Node {
	if !r.Stands("-") && !r.Stands("!") && !r.StandsWord("typeof") {
		return r.postfix()
	}
	r.begin()
	n := cursor.Node(api.Unary, r.Pass(), r.unary())
	r.end()
	return n
}

func (r *reader) postfix() api.Node {
	n := r.primary()
	for {
		switch {
		case r.Take("."):
			n = cursor.Node(api.Member, r.Prop(), n)
		case r.Take("["):
			n = cursor.Node(api.Index, "", n, r.anExpr())
			r.Want("]")
		case r.Take("("):
			n = cursor.Node(api.Call, "", append([]api.Node{n}, r.List(")", r.anExpr)...)...)
		default:
			return n
		}
	}
}

func (r *reader) primary() api.Node {
	switch t := r.Token(); t.Kind {
	case api.TokenNumber:
		r.Pass()
		return api.Node{Kind: api.Num, N: t.N}
	case api.TokenText:
		return cursor.Node(api.Text, r.Pass())
	case api.TokenName:
		return cursor.Node(api.Name, r.Pass())
	case api.TokenWord:
		return r.wordPrimary()
	}
	return r.signPrimary()
}

// wordPrimary reads a primary that begins with a word.
func (r *reader) wordPrimary() api.Node {
	switch {
	case r.TakeWord("true"):
		return api.Node{Kind: api.Bool, N: 1}
	case r.TakeWord("false"):
		return cursor.Node(api.Bool, "")
	case r.TakeWord("null"):
		return cursor.Node(api.Null, "")
	case r.TakeWord("undefined"):
		return cursor.Node(api.Undef, "")
	case r.TakeWord("this"):
		return cursor.Node(api.This, "")
	case r.TakeWord("new"):
		class := r.Id()
		r.Want("(")
		return cursor.Node(api.New, class, r.List(")", r.anExpr)...)
	case r.TakeWord("function"):
		return cursor.Node(api.Func, "", r.Params(r.typeOrNone), r.typeOrNone(), r.block())
	}
	panic(r.Wrong())
}

// signPrimary reads a primary that begins with a sign.
func (r *reader) signPrimary() api.Node {
	switch {
	case r.Take("["):
		return cursor.Node(api.Array, "", r.List("]", r.anExpr)...)
	case r.Take("{"):
		return cursor.Node(api.Object, "", r.List("}", r.objectProp)...)
	case r.Stands("(") && r.beforeArrow():
		return r.arrow()
	case r.Take("("):
		n := r.anExpr()
		r.Want(")")
		return n
	}
	panic(r.Wrong())
}

func (r *reader) objectProp() api.Node {
	alone := r.StandsId()
	name := r.Prop()
	if r.Take(":") {
		return cursor.Node(api.Prop, name, r.anExpr())
	}
	if !alone {
		panic(r.Wrong())
	}
	return cursor.Node(api.Prop, name, cursor.Node(api.Name, strings.Clone(name)))
}

func (r *reader) arrow() api.Node {
	params := r.Params(r.typeOrNone)
	r.Want("=>")
	return cursor.Node(api.Func, "", params, cursor.Node(api.None, ""), r.arrowBody())
}

// arrowBody reads a Block wherever a { stands: an Object there needs brackets.
func (r *reader) arrowBody() api.Node {
	if r.Stands("{") {
		return r.block()
	}
	return cursor.Node(api.Block, "", cursor.Node(api.Return, "", r.anExpr()))
}

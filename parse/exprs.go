package parse

import (
	"strings"

	"gusset/api"
)

func (r *reader) anExpr() api.Node {
	r.begin()
	n := r.cond()
	if r.stands("=") {
		n = r.assign(n)
	}
	r.end()
	return n
}

// assign reads the = here and what stands behind it.
func (r *reader) assign(target api.Node) api.Node {
	switch target.Kind {
	case api.Name, api.Member, api.Index:
		r.at++
		return node(api.Assign, "", target, r.anExpr())
	}
	panic(r.wrong())
}

func (r *reader) cond() api.Node {
	n := r.binary(1)
	if !r.take("?") {
		return n
	}
	then := r.anExpr()
	r.want(":")
	return node(api.Cond, "", n, then, r.anExpr())
}

// lineOf is the line of a binary operator, of which the first binds least; 0, if the token is none.
func lineOf(t api.Token) int {
	if t.Kind != api.TokenSign {
		return 0
	}
	switch t.Text {
	case "||":
		return 1
	case "&&":
		return 2
	case "===", "!==":
		return 3
	case "<", "<=", ">", ">=":
		return 4
	case "+", "-":
		return 5
	case "*", "/", "%":
		return 6
	}
	return 0
}

// binary reads operands with operators of that line and of those that bind more.
func (r *reader) binary(least int) api.Node {
	n := r.unary()
	for {
		line := lineOf(r.token())
		if line < least {
			return n
		}
		sign := r.pass()
		// The right one ends ahead of the next operator of the same line: those are taken from the left on.
		n = node(api.Binary, sign, n, r.binary(line+1))
	}
}

func (r *reader) unary() api.Node {
	if !r.stands("-") && !r.stands("!") && !r.standsWord("typeof") {
		return r.postfix()
	}
	r.begin()
	n := node(api.Unary, r.pass(), r.unary())
	r.end()
	return n
}

func (r *reader) postfix() api.Node {
	n := r.primary()
	for {
		switch {
		case r.take("."):
			n = node(api.Member, r.prop(), n)
		case r.take("["):
			n = node(api.Index, "", n, r.anExpr())
			r.want("]")
		case r.take("("):
			n = node(api.Call, "", append([]api.Node{n}, r.list(")", r.anExpr)...)...)
		default:
			return n
		}
	}
}

func (r *reader) primary() api.Node {
	switch t := r.token(); t.Kind {
	case api.TokenNumber:
		r.at++
		return api.Node{Kind: api.Num, N: t.N}
	case api.TokenText:
		return node(api.Text, r.pass())
	case api.TokenName:
		return node(api.Name, r.pass())
	case api.TokenWord:
		return r.wordPrimary()
	}
	return r.signPrimary()
}

// wordPrimary reads a primary that begins with a word.
func (r *reader) wordPrimary() api.Node {
	switch {
	case r.takeWord("true"):
		return api.Node{Kind: api.Bool, N: 1}
	case r.takeWord("false"):
		return node(api.Bool, "")
	case r.takeWord("null"):
		return node(api.Null, "")
	case r.takeWord("undefined"):
		return node(api.Undef, "")
	case r.takeWord("this"):
		return node(api.This, "")
	case r.takeWord("new"):
		class := r.id()
		r.want("(")
		return node(api.New, class, r.list(")", r.anExpr)...)
	case r.takeWord("function"):
		return node(api.Func, "", r.params(false), r.typeOrNone(), r.block())
	}
	panic(r.wrong())
}

// signPrimary reads a primary that begins with a sign.
func (r *reader) signPrimary() api.Node {
	switch {
	case r.take("["):
		return node(api.Array, "", r.list("]", r.anExpr)...)
	case r.take("{"):
		return node(api.Object, "", r.list("}", r.objectProp)...)
	case r.stands("(") && r.beforeArrow():
		return r.arrow()
	case r.take("("):
		n := r.anExpr()
		r.want(")")
		return n
	}
	panic(r.wrong())
}

func (r *reader) objectProp() api.Node {
	alone := r.standsId()
	name := r.prop()
	if r.take(":") {
		return node(api.Prop, name, r.anExpr())
	}
	if !alone {
		panic(r.wrong())
	}
	return node(api.Prop, name, node(api.Name, strings.Clone(name)))
}

func (r *reader) arrow() api.Node {
	params := r.params(false)
	r.want("=>")
	return node(api.Func, "", params, node(api.None, ""), r.arrowBody())
}

// arrowBody reads a Block wherever a { stands: an Object there needs brackets.
func (r *reader) arrowBody() api.Node {
	if r.stands("{") {
		return r.block()
	}
	return node(api.Block, "", node(api.Return, "", r.anExpr()))
}

package show

import (
	"strconv"
	"strings"

	"gusset/api"
	"gusset/runes"
)

// The ranks that places ask for and that kinds have, but those of a Binary.
const (
	anyRank    = 1
	assignRank = 1
	condRank   = 2
	orRank     = 3
	unaryRank  = 9
	callRank   = 10
	leafRank   = 11
)

func rankOf(n api.Node) int {
	switch n.Kind {
	case api.Assign:
		return assignRank
	case api.Cond:
		return condRank
	case api.Binary:
		return binaryRank(n.Text)
	case api.Unary:
		return unaryRank
	case api.Call, api.Member, api.Index:
		return callRank
	}
	return leafRank
}

func binaryRank(operator string) int {
	switch operator {
	case "||":
		return orRank
	case "&&":
		return 4
	case "===", "!==":
		return 5
	case "<", "<=", ">", ">=":
		return 6
	case "+", "-":
		return 7
	}
	return 8 // * / %
}

// expr is an expression in a place that asks for that rank.
func expr(n api.Node, asked int) piece {
	if rankOf(n) < asked {
		return brackets(bare(n))
	}
	return bare(n)
}

// anyExpr is an expression in a place where all may stand without brackets.
func anyExpr(n api.Node) piece {
	return expr(n, anyRank)
}

// leading is the expression of an Expr or a Default: one that began with a { or a function would be read as a Block or a Function.
func leading(n api.Node) piece {
	e := anyExpr(n)
	// The word is a text of its own: a name that only begins as it does is none.
	if s := e.begin(); s == "function" || strings.HasPrefix(s, "{") {
		return brackets(e)
	}
	return e
}

// bare is an expression without brackets around it.
func bare(n api.Node) piece {
	switch n.Kind {
	case api.Unary:
		return unary(n)
	case api.Binary:
		rank := binaryRank(n.Text)
		return row{expr(n.Kids[0], rank), said(" " + n.Text + " "), expr(n.Kids[1], rank+1)}
	case api.Cond:
		return row{expr(n.Kids[0], orRank), said(" ? "), anyExpr(n.Kids[1]), said(" : "), anyExpr(n.Kids[2])}
	case api.Assign:
		return row{expr(n.Kids[0], callRank), said(" = "), anyExpr(n.Kids[1])}
	case api.Call:
		return row{expr(n.Kids[0], callRank), arguments(n.Kids[1:])}
	case api.Member:
		return row{expr(n.Kids[0], callRank), said("." + n.Text)}
	case api.Index:
		return row{expr(n.Kids[0], callRank), said("["), anyExpr(n.Kids[1]), said("]")}
	case api.New:
		return row{said("new " + n.Text), arguments(n.Kids)}
	case api.Array:
		return row{said("["), list(n.Kids, ", ", anyExpr), said("]")}
	case api.Object:
		return braces(list(n.Kids, ", ", prop))
	case api.Func:
		return row{said("function"), said(" "), callable(n)}
	}
	return said(leaf(n))
}

func unary(n api.Node) piece {
	operator := n.Text
	if operator == "typeof" {
		operator += " "
	}
	return row{said(operator), expr(n.Kids[0], unaryRank)}
}

func arguments(l []api.Node) piece {
	return brackets(list(l, ", ", anyExpr))
}

func prop(n api.Node) piece {
	return row{said(n.Text + ": "), anyExpr(n.Kids[0])}
}

// leaf is an expression that has no others in it.
func leaf(n api.Node) string {
	switch n.Kind {
	case api.Num:
		return strconv.Itoa(n.N)
	case api.Text:
		return runes.Quote(n.Text)
	case api.Bool:
		return strconv.FormatBool(n.N == 1)
	case api.Null:
		return "null"
	case api.Undef:
		return "undefined"
	case api.This:
		return "this"
	}
	return n.Text // Name
}

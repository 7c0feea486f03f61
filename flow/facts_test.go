package flow

import (
	"strings"
	"testing"

	"gusset/api"
	"gusset/tree"
)

// A condition is an expression with what it says where it is true, and where it is not.
type condition struct{ text, ifTrue, ifNot string }

func areSaid(t *testing.T, l []condition) {
	t.Helper()
	for _, c := range l {
		says(t, expr(c.text), c.ifTrue, c.ifNot)
	}
}

// 17.1: the chapter's examples.
func TestFactsExamples(t *testing.T) {
	areSaid(t, []condition{
		{`typeof x === "number" && y`, "x: typeof number, y: true", ""},
		{`!(x !== null)`, "x: is null", "x: not is null"},
	})
	f := Facts(expr(`typeof x === "number" && y`), true)
	if len(f) != 2 || f[0] != (api.Fact{Name: "x", Kind: api.FactTypeof, Text: "number"}) || f[1] != (api.Fact{Name: "y", Kind: api.FactTrue}) {
		t.Error(f)
	}
	f = Facts(expr(`x === null`), false)
	if len(f) != 1 || f[0] != (api.Fact{Name: "x", Kind: api.FactIs, Text: "null", Not: true}) {
		t.Error(f)
	}
}

// 17.1: a Name is true, or is not.
func TestFactsName(t *testing.T) {
	areSaid(t, []condition{
		{"x", "x: true", "x: not true"}, {"(x)", "x: true", "x: not true"}, {"a$1", "a$1: true", "a$1: not true"}, {"ä", "ä: true", "ä: not true"}, {"print", "print: true", "print: not true"},
		{"!x", "x: not true", "x: true"}, {"!!x", "x: true", "x: not true"}, {"!!!x", "x: not true", "x: true"},
	})
}

// 17.1: typeof of a Name held against a Text, either way round, by both operators; the Text may be any.
func TestFactsTypeof(t *testing.T) {
	for _, text := range []string{"number", "string", "boolean", "undefined", "object", "function", "null", "any", "", "Number", "ä b", " number"} {
		is, not := "x: typeof "+text, "x: not typeof "+text
		areSaid(t, []condition{
			{`typeof x === "` + text + `"`, is, not}, {`"` + text + `" === typeof x`, is, not},
			{`typeof x !== "` + text + `"`, not, is}, {`"` + text + `" !== typeof x`, not, is},
			{`!(typeof x === "` + text + `")`, not, is}, {`!("` + text + `" !== typeof x)`, is, not},
			{`!!(typeof x !== "` + text + `")`, not, is},
		})
	}
	areSaid(t, []condition{
		{`typeof x`, "", ""}, {`!typeof x`, "", ""}, {`typeof x === typeof y`, "", ""}, {`typeof x === y`, "", ""}, {`x === typeof y`, "", ""}, {`typeof x === null`, "", ""}, {`undefined === typeof x`, "", ""},
		{`typeof x === 1`, "", ""}, {`typeof x === true`, "", ""}, {`typeof x === ["number"]`, "", ""}, {`typeof x === "num" + "ber"`, "", ""},
		{`typeof x.y === "number"`, "", ""}, {`typeof x[0] === "number"`, "", ""}, {`typeof x() === "number"`, "", ""}, {`typeof this === "object"`, "", ""}, {`typeof !x === "number"`, "", ""},
		{`typeof typeof x === "string"`, "", ""}, {`"string" !== typeof typeof x`, "", ""}, {`typeof (x = 1) === "number"`, "", ""}, {`typeof "x" === "string"`, "", ""}, {`typeof null === "object"`, "", ""},
		{`typeof (typeof x === "number")`, "", ""}, {`-x === "number"`, "", ""}, {`!x === "number"`, "", ""}, {`"number" === !x`, "", ""}, {`typeof x < "number"`, "", ""}, {`typeof x + "number"`, "", ""},
	})
}

// 17.1: a Name held against Null or Undef, either way round, by both operators.
func TestFactsIs(t *testing.T) {
	for _, word := range []string{"null", "undefined"} {
		is, not := "x: is "+word, "x: not is "+word
		areSaid(t, []condition{
			{"x === " + word, is, not}, {word + " === x", is, not}, {"x !== " + word, not, is}, {word + " !== x", not, is},
			{"!(x === " + word + ")", not, is}, {"!(" + word + " !== x)", is, not}, {"!!(" + word + " === x)", is, not},
			{"x.y === " + word, "", ""}, {word + " === x[0]", "", ""}, {"x() === " + word, "", ""}, {"this === " + word, "", ""}, {"!x === " + word, "", ""}, {word + " === -x", "", ""}, {"(x = 1) === " + word, "", ""},
			{word + " === " + word, "", ""}, {word, "", ""}, {"!" + word, "", ""}, {`x === "` + word + `"`, "", ""}, {`"` + word + `" !== x`, "", ""},
			{"x < " + word, "", ""}, {"x + " + word, "", ""}, {word + " >= x", "", ""},
		})
	}
	areSaid(t, []condition{
		{"x === y", "", ""}, {"x !== x", "", ""}, {"x === 1", "", ""}, {"x === true", "", ""}, {"false === x", "", ""}, {"x === []", "", ""}, {"x === {}", "", ""}, {"null === undefined", "", ""}, {"x === this", "", ""}, {`x === "number"`, "", ""},
		{"x === !null", "", ""}, {"x === (y === null)", "", ""}, {"(x === null) === true", "", ""}, {"(x !== null) !== (y !== null)", "", ""},
	})
}

// 17.1: && that is true and || that is not have those of both, the left ones ahead; else there are none.
func TestFactsBoth(t *testing.T) {
	areSaid(t, []condition{
		{"x && y", "x: true, y: true", ""}, {"x || y", "", "x: not true, y: not true"}, {"y && x", "y: true, x: true", ""}, {"x && x", "x: true, x: true", ""},
		{"!(x && y)", "", "x: true, y: true"}, {"!(x || y)", "x: not true, y: not true", ""}, {"!x && !y", "x: not true, y: not true", ""}, {"!x || !y", "", "x: true, y: true"},
		{"x && y && z", "x: true, y: true, z: true", ""}, {"x && (y && z)", "x: true, y: true, z: true", ""}, {"x || y || z", "", "x: not true, y: not true, z: not true"}, {"x || (y || z)", "", "x: not true, y: not true, z: not true"},
		{"x && y || z", "", "z: not true"}, {"x || y && z", "", "x: not true"}, {"(x || y) && z", "z: true", ""}, {"x && (y || z)", "x: true", ""},
		{"x && !(y || z)", "x: true, y: not true, z: not true", ""}, {"x || !(y && z)", "", "x: not true, y: true, z: true"}, {"!(x && y) && z", "z: true", ""}, {"!(!(x && y) || z)", "x: true, y: true, z: not true", ""},
		{"x && f()", "x: true", ""}, {"f() && x", "x: true", ""}, {"1 || x", "", "x: not true"}, {"f() || g()", "", ""}, {"a + b && x", "x: true", ""},
		{`x !== null && typeof x === "object"`, "x: not is null, x: typeof object", ""}, {`x === null || undefined === x || "number" !== typeof x`, "", "x: not is null, x: not is undefined, x: typeof number"},
		{"(x && y) === null", "", ""}, {"(x && y) + z", "", ""}, {"x = y && z", "", ""},
	})
}

// 17.1: all else says nothing, whatever stands within.
func TestFactsElse(t *testing.T) {
	for _, text := range []string{
		"1", "0", `"x"`, `""`, "true", "false", "null", "undefined", "this", "[x]", "[]", "{}", "{ x: x }", "(x) => { return x; }", "function (x) { return x; }", "-x", "-(x === null)", "x ? y : z", "x ? true : false",
		"x = y", "x = null", "x.y = z", "x[0] = z", "x()", "x(y)", "new X()", "new X(y)", "x.y", "x.x", "x[0]", "x[y]", "x + y", "x - y", "x * y", "x / y", "x % y", "x < y", "x <= y", "x > y", "x >= y",
	} {
		areSaid(t, []condition{{text, "", ""}, {"!" + "(" + text + ")", "", ""}, {"(" + text + ") === null", "", ""}, {"undefined !== (" + text + ")", "", ""}})
	}
}

// 17.1: of what is no whole expression there is nothing.
func TestFactsRefused(t *testing.T) {
	x, null := expr("x"), expr("null")
	equal := node(api.Binary, "===", x, null)
	refused := []api.Node{
		{}, {Kind: -1}, {Kind: 99}, {Kind: api.Name}, {Kind: api.Name, Text: "x", N: 1}, {Kind: api.Name, Text: "1x"}, {Kind: api.Name, Text: "if"}, {Kind: api.Name, Text: "null"}, {Kind: api.Name, Text: "x y"}, node(api.Name, "x", x),
		{Kind: api.Prop, Text: "x"}, node(api.Prop, "x", x), {Kind: api.Params}, {Kind: api.None}, node(api.Param, "x", node(api.None, "")), {Kind: api.TypeName, Text: "x"},
		node(api.Expr, "", x), node(api.Expr, "", equal), node(api.Block, "", node(api.Expr, "", x)), node(api.Return, "", x), node(api.Throw, "", x), node(api.Let, "x", node(api.None, ""), x),
		node(api.Default, "", x), node(api.Default, "", equal), node(api.Module, ""), node(api.Module, "", node(api.Expr, "", x)), node(api.Script, "", node(api.Expr, "", equal)), node(api.Module, "", x),
		node(api.Unary, "!"), node(api.Unary, "!", x, x), node(api.Unary, "", x), node(api.Unary, "+", x), {Kind: api.Unary, Text: "!", N: 1, Kids: []api.Node{x}}, node(api.Unary, "!", node(api.None, "")), node(api.Unary, "!", node(api.Expr, "", x)),
		node(api.Binary, "&&"), node(api.Binary, "&&", x), node(api.Binary, "&&", x, x, x), node(api.Binary, "&", x, x), node(api.Binary, "==", x, null), node(api.Binary, "", x, null), node(api.Binary, "!", x, null),
		node(api.Binary, "===", x), node(api.Binary, "===", x, null, null), {Kind: api.Binary, Text: "===", N: 1, Kids: []api.Node{x, null}}, node(api.Binary, "===", x, node(api.Null, "null")), node(api.Binary, "===", x, node(api.None, "")), node(api.Binary, "===", node(api.TypeName, "x"), null),
		node(api.Binary, "===", node(api.Unary, "typeof"), node(api.Text, "number")), node(api.Binary, "===", node(api.Unary, "typeof", x), node(api.Text, "\xff")), node(api.Binary, "===", node(api.Unary, "typeof", x, x), node(api.Text, "number")),
	}
	for _, bad := range refused {
		if tree.Form(bad) == api.FormExpr {
			t.Fatalf("%v is an expression", bad)
		}
		says(t, bad, "", "")
		// Nor does what is whole beside it say anything.
		for _, n := range []api.Node{
			node(api.Binary, "&&", x, bad), node(api.Binary, "||", bad, equal), node(api.Unary, "!", bad),
			node(api.Binary, "&&", x, node(api.Call, "", x, bad)), node(api.Binary, "||", equal, node(api.Array, "", bad)),
		} {
			says(t, n, "", "")
		}
	}
}

// 17.1, R1: conditions as deep as the bound has them.
func TestFactsDeep(t *testing.T) {
	const deep = 1<<16 - 2
	x, all := expr("x"), make([]string, deep+1)
	left, right, turned := x, x, x
	for i := range deep {
		left = node(api.Binary, "&&", left, x)
		right = node(api.Binary, "||", x, right)
		turned = node(api.Unary, "!", turned)
		all[i] = "x: true"
	}
	all[deep] = "x: true"
	says(t, left, strings.Join(all, ", "), "")
	says(t, right, "", strings.ReplaceAll(strings.Join(all, ", "), "true", "not true"))
	says(t, turned, "x: true", "x: not true")
	says(t, node(api.Unary, "!", turned), "x: not true", "x: true")
}

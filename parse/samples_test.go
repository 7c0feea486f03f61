package parse

import (
	"fmt"
	"strings"
	"testing"

	"gusset/api"
	"gusset/lex"
)

// A face is one of the three calls.
type face struct {
	name string
	call func([]api.Token, int) (api.Node, int, api.Errno)
	form int
}

var (
	exprs = face{"Expr", Expr, api.FormExpr}
	types = face{"Type", Type, api.FormType}
	stmts = face{"Stmt", Stmt, api.FormStmt}
)

// tokens are those of a source. The name $none stands for a token of a kind that is none.
func tokens(t testing.TB, s string) []api.Token {
	t.Helper()
	l, at, err := lex.Lex(s, true)
	if err != api.OK {
		t.Fatalf("%q is no source: %d at %d", s, err, at)
	}
	for i := range l {
		if l[i].Text == "$none" {
			l[i] = api.Token{Kind: 6, Text: "a"}
		}
	}
	return l
}

// source is about what the tokens came from.
func source(l []api.Token) string {
	var b strings.Builder
	for _, t := range l {
		switch t.Kind {
		case api.TokenNumber:
			fmt.Fprint(&b, t.N, " ")
		case api.TokenText:
			fmt.Fprintf(&b, "%q ", t.Text)
		case api.TokenName, api.TokenWord, api.TokenSign:
			fmt.Fprint(&b, t.Text, " ")
		default:
			fmt.Fprintf(&b, "(kind %d) ", t.Kind)
		}
	}
	return b.String()
}

var kinds = map[int]string{
	api.Num: "Num", api.Text: "Text", api.Bool: "Bool", api.Null: "Null", api.Undef: "Undef", api.Name: "Name", api.This: "This", api.Array: "Array", api.Object: "Object",
	api.Prop: "Prop", api.Func: "Func", api.Params: "Params", api.Param: "Param", api.None: "None", api.Unary: "Unary", api.Binary: "Binary", api.Cond: "Cond",
	api.Assign: "Assign", api.Call: "Call", api.New: "New", api.Member: "Member", api.Index: "Index",
	api.TypeName: "TypeName", api.TypeArray: "TypeArray", api.TypeUnion: "TypeUnion", api.TypeObject: "TypeObject", api.TypeProp: "TypeProp", api.TypeFunc: "TypeFunc",
	api.Let: "Let", api.Function: "Function", api.Expr: "Expr", api.If: "If", api.While: "While", api.Return: "Return", api.Throw: "Throw", api.Block: "Block",
}

// told is a tree as text: (Kind text #N kids), what is zero left out; a Name with nothing else as its text, so a Num as its N, a None as _, and a TypeName with a : ahead.
func told(n api.Node) string {
	leaf := len(n.Kids) == 0
	switch {
	case leaf && n.Kind == api.Name && n.N == 0 && n.Text != "":
		return n.Text
	case leaf && n.Kind == api.TypeName && n.N == 0 && n.Text != "":
		return ":" + n.Text
	case leaf && n.Kind == api.Num && n.Text == "":
		return fmt.Sprint(n.N)
	case leaf && n.Kind == api.None && n.Text == "" && n.N == 0:
		return "_"
	}
	var b strings.Builder
	b.WriteString("(" + kinds[n.Kind])
	if kinds[n.Kind] == "" {
		fmt.Fprintf(&b, "kind %d", n.Kind)
	}
	if n.Text != "" {
		b.WriteString(" " + n.Text)
	}
	if n.N != 0 {
		fmt.Fprintf(&b, " #%d", n.N)
	}
	for _, k := range n.Kids {
		b.WriteString(" " + told(k))
	}
	return b.String() + ")"
}

// A sample is a source that a rule takes whole, and its tree.
type sample struct {
	face   face
	source string
	tree   string
}

// samples take each rule of the grammar, with each thing that may stand there and may not.
func samples() []sample {
	l := []sample{}
	add := func(f face, pairs ...string) {
		for i := 0; i < len(pairs); i += 2 {
			l = append(l, sample{f, pairs[i], pairs[i+1]})
		}
	}
	add(exprs, primaries()...)
	add(exprs, operators()...)
	add(exprs, functions()...)
	add(types, typings()...)
	add(stmts, statements()...)
	return l
}

func primaries() []string {
	return []string{
		"0", "0",
		"9007199254740991", "9007199254740991",
		"'a b'", "(Text a b)",
		"''", "(Text)",
		"true", "(Bool #1)",
		"false", "(Bool)",
		"null", "(Null)",
		"undefined", "(Undef)",
		"this", "(This)",
		"a", "a",
		"number", "number",
		"(a)", "a",
		"((1))", "1",
		"[]", "(Array)",
		"[a]", "(Array a)",
		"[a, ]", "(Array a)",
		"[a, 1, [b], ]", "(Array a 1 (Array b))",
		"[a = b, c ? d : e]", "(Array (Assign a b) (Cond c d e))",
		"{}", "(Object)",
		"{ a }", "(Object (Prop a a))",
		"{ a, }", "(Object (Prop a a))",
		"{ a: 1 }", "(Object (Prop a 1))",
		"{ a, if: 1 }", "(Object (Prop a a) (Prop if 1))",
		"{ a: b = c, a: d, a, }", "(Object (Prop a (Assign b c)) (Prop a d) (Prop a a))",
		"{ null: null, a: {} }", "(Object (Prop null (Null)) (Prop a (Object)))",
		"new C()", "(New C)",
		"new C(1)", "(New C 1)",
		"new C(a, b = c, )", "(New C a (Assign b c))",
		"new C(1).x", "(Member x (New C 1))",
		"new C()(1)", "(Call (New C) 1)",
		"a.b", "(Member b a)",
		"a.if", "(Member if a)",
		"5.x", "(Member x 5)",
		"a[b]", "(Index a b)",
		"a[b = c]", "(Index a (Assign b c))",
		"f()", "(Call f)",
		"f(1, 2, )", "(Call f 1 2)",
		"f(a = b)", "(Call f (Assign a b))",
		"a.b(c)[d].e()()", "(Call (Call (Member e (Index (Call (Member b a) c) d))))",
		"(a + b).c", "(Member c (Binary + a b))",
		"(a)(b)", "(Call a b)",
		"[a][b]", "(Index (Array a) b)",
		"{ a }.a", "(Member a (Object (Prop a a)))",
		"'a'.length", "(Member length (Text a))",
		"this.a", "(Member a (This))",
	}
}

func operators() []string {
	l := []string{
		"-a", "(Unary - a)",
		"!a", "(Unary ! a)",
		"typeof a", "(Unary typeof a)",
		"!typeof - -a", "(Unary ! (Unary typeof (Unary - (Unary - a))))",
		"-a.b(c)[d]", "(Unary - (Index (Call (Member b a) c) d))",
		"-(a + b)", "(Unary - (Binary + a b))",
		"-a - -b", "(Binary - (Unary - a) (Unary - b))",
		"a + b * c", "(Binary + a (Binary * b c))",
		"a * b + c", "(Binary + (Binary * a b) c)",
		"a - b - c", "(Binary - (Binary - a b) c)",
		"a - (b - c)", "(Binary - a (Binary - b c))",
		"a || b && c === d < e + f * g", "(Binary || a (Binary && b (Binary === c (Binary < d (Binary + e (Binary * f g))))))",
		"a * b + c < d === e && f || g", "(Binary || (Binary && (Binary === (Binary < (Binary + (Binary * a b) c) d) e) f) g)",
		"a ? b : c", "(Cond a b c)",
		"a ? b : c ? d : e", "(Cond a b (Cond c d e))",
		"a ? b ? c : d : e", "(Cond a (Cond b c d) e)",
		"(a ? b : c) ? d : e", "(Cond (Cond a b c) d e)",
		"a || b ? c = d : e = f", "(Cond (Binary || a b) (Assign c d) (Assign e f))",
		"a = b", "(Assign a b)",
		"a = b = c", "(Assign a (Assign b c))",
		"a.b = c", "(Assign (Member b a) c)",
		"a[b] = c", "(Assign (Index a b) c)",
		"f().a = c", "(Assign (Member a (Call f)) c)",
		"(a) = b", "(Assign a b)",
		"((a.b)) = c", "(Assign (Member b a) c)",
		"a = (b = c)", "(Assign a (Assign b c))",
		"a = b ? c : d", "(Assign a (Cond b c d))",
	}
	for _, op := range strings.Fields("|| && === !== < <= > >= + - * / %") {
		l = append(l, "a "+op+" b", "(Binary "+op+" a b)")
	}
	return l
}

func functions() []string {
	return []string{
		"function () {}", "(Func (Params) _ (Block))",
		"function (a) { return a; }", "(Func (Params (Param a _)) _ (Block (Return a)))",
		"function (a: T, b, c: U[], ): R { }", "(Func (Params (Param a :T) (Param b _) (Param c (TypeArray :U))) :R (Block))",
		"function () {}()", "(Call (Func (Params) _ (Block)))",
		"(function () {})", "(Func (Params) _ (Block))",
		"() => a", "(Func (Params) _ (Block (Return a)))",
		"(a) => a", "(Func (Params (Param a _)) _ (Block (Return a)))",
		"(a, ) => a", "(Func (Params (Param a _)) _ (Block (Return a)))",
		"(a, b) => a", "(Func (Params (Param a _) (Param b _)) _ (Block (Return a)))",
		"(a: T, b: () => U, c) => 1", "(Func (Params (Param a :T) (Param b (TypeFunc (Params) :U)) (Param c _)) _ (Block (Return 1)))",
		"() => { }", "(Func (Params) _ (Block))",
		"() => { a; return 1; }", "(Func (Params) _ (Block (Expr a) (Return 1)))",
		"() => ({ })", "(Func (Params) _ (Block (Return (Object))))",
		"(a) => b = c", "(Func (Params (Param a _)) _ (Block (Return (Assign b c))))",
		"(a) => b ? c : d", "(Func (Params (Param a _)) _ (Block (Return (Cond b c d))))",
		"(a) => (b) => a + b", "(Func (Params (Param a _)) _ (Block (Return (Func (Params (Param b _)) _ (Block (Return (Binary + a b)))))))",
		"a + (b) => c + d", "(Binary + a (Func (Params (Param b _)) _ (Block (Return (Binary + c d)))))",
		"-() => a", "(Unary - (Func (Params) _ (Block (Return a))))",
		"() => {} + 1", "(Binary + (Func (Params) _ (Block)) 1)",
		"() => {}(1).a", "(Member a (Call (Func (Params) _ (Block)) 1))",
		"((a) => a)(1)", "(Call (Func (Params (Param a _)) _ (Block (Return a))) 1)",
		"() => {} ? a : b", "(Cond (Func (Params) _ (Block)) a b)",
		"a ? (b) : (c) => d", "(Cond a b (Func (Params (Param c _)) _ (Block (Return d))))",
		"a = () => b", "(Assign a (Func (Params) _ (Block (Return b))))",
		"f((a) => b, (c))", "(Call f (Func (Params (Param a _)) _ (Block (Return b))) c)",
		"[() => a, b]", "(Array (Func (Params) _ (Block (Return a))) b)",
		"(f)(() => [({})])", "(Call f (Func (Params) _ (Block (Return (Array (Object))))))",
		"(a: { b: T; }) => 1", "(Func (Params (Param a (TypeObject (TypeProp b :T)))) _ (Block (Return 1)))",
		"function (a: (T)): (U) {}", "(Func (Params (Param a :T)) :U (Block))",
	}
}

func typings() []string {
	return []string{
		"T", ":T",
		"number", ":number",
		"null", ":null",
		"undefined", ":undefined",
		"(T)", ":T",
		"((T))", ":T",
		"T[]", "(TypeArray :T)",
		"T[][]", "(TypeArray (TypeArray :T))",
		"(T)[]", "(TypeArray :T)",
		"T | U", "(TypeUnion :T :U)",
		"T | T | null", "(TypeUnion :T :T :null)",
		"T | U[]", "(TypeUnion :T (TypeArray :U))",
		"(T | U)[]", "(TypeArray (TypeUnion :T :U))",
		"(T | U)", "(TypeUnion :T :U)",
		"(a | b) | c", "(TypeUnion :a :b :c)",
		"a | (b | c)", "(TypeUnion :a :b :c)",
		"(a | (b | (c | d))) | (e)", "(TypeUnion :a :b :c :d :e)",
		"{}", "(TypeObject)",
		"{ a: T; }", "(TypeObject (TypeProp a :T))",
		"{ a: T; if: U | V; b: {}; }", "(TypeObject (TypeProp a :T) (TypeProp if (TypeUnion :U :V)) (TypeProp b (TypeObject)))",
		"{}[]", "(TypeArray (TypeObject))",
		"() => T", "(TypeFunc (Params) :T)",
		"(a: T) => U", "(TypeFunc (Params (Param a :T)) :U)",
		"(a: T, b: U[], ) => null", "(TypeFunc (Params (Param a :T) (Param b (TypeArray :U))) :null)",
		"() => T | U", "(TypeFunc (Params) (TypeUnion :T :U))",
		"() => T[]", "(TypeFunc (Params) (TypeArray :T))",
		"() => () => T", "(TypeFunc (Params) (TypeFunc (Params) :T))",
		"(() => T)[]", "(TypeArray (TypeFunc (Params) :T))",
		"(() => T) | U", "(TypeUnion (TypeFunc (Params) :T) :U)",
		"T | () => U | V", "(TypeUnion :T (TypeFunc (Params) (TypeUnion :U :V)))",
		"(a | b)[] | () => c | d", "(TypeUnion (TypeArray (TypeUnion :a :b)) (TypeFunc (Params) (TypeUnion :c :d)))",
		"(f: (a: T) => U) => V", "(TypeFunc (Params (Param f (TypeFunc (Params (Param a :T)) :U))) :V)",
		"(f: { a: T; }) => ({})", "(TypeFunc (Params (Param f (TypeObject (TypeProp a :T)))) (TypeObject))",
	}
}

func statements() []string {
	return []string{
		"let x = 1;", "(Let x _ 1)",
		"const x = 1;", "(Let x #1 _ 1)",
		"let x: T = a = b;", "(Let x :T (Assign a b))",
		"const x: T | U = (a) => a;", "(Let x #1 (TypeUnion :T :U) (Func (Params (Param a _)) _ (Block (Return a))))",
		"const x: (a: T) => U = () => 1;", "(Let x #1 (TypeFunc (Params (Param a :T)) :U) (Func (Params) _ (Block (Return 1))))",
		"function f() {}", "(Function f (Params) _ (Block))",
		"function f(a: T, b, ): U | V { return a; }", "(Function f (Params (Param a :T) (Param b _)) (TypeUnion :U :V) (Block (Return a)))",
		"function f(a, b): () => T {}", "(Function f (Params (Param a _) (Param b _)) (TypeFunc (Params) :T) (Block))",
		"if (a) {}", "(If a (Block) _)",
		"if (a = b) { c; d; }", "(If (Assign a b) (Block (Expr c) (Expr d)) _)",
		"if (a) {} else {}", "(If a (Block) (Block))",
		"if (a) { } else { b; }", "(If a (Block) (Block (Expr b)))",
		"if (a) { } else if (b) { }", "(If a (Block) (Block (If b (Block) _)))",
		"if (a) { } else if (b) { c; } else { d; }", "(If a (Block) (Block (If b (Block (Expr c)) (Block (Expr d)))))",
		"if (a) { } else if (b) { } else if (c) { }", "(If a (Block) (Block (If b (Block) (Block (If c (Block) _)))))",
		"if (a) { if (b) { } } else { }", "(If a (Block (If b (Block) _)) (Block))",
		"while (a) {}", "(While a (Block))",
		"while ((a)) { b; while (c) { } }", "(While a (Block (Expr b) (While c (Block))))",
		"return;", "(Return _)",
		"return a;", "(Return a)",
		"return a = b;", "(Return (Assign a b))",
		"return { };", "(Return (Object))",
		"return function () { };", "(Return (Func (Params) _ (Block)))",
		"throw a;", "(Throw a)",
		"throw a ? b : c;", "(Throw (Cond a b c))",
		"{}", "(Block)",
		"{ {} a; { let b = 1; } }", "(Block (Block) (Expr a) (Block (Let b _ 1)))",
		"a;", "(Expr a)",
		"a = 1;", "(Expr (Assign a 1))",
		"f(a, b);", "(Expr (Call f a b))",
		"(a) => b;", "(Expr (Func (Params (Param a _)) _ (Block (Return b))))",
		"(function () {})();", "(Expr (Call (Func (Params) _ (Block))))",
		"({ a });", "(Expr (Object (Prop a a)))",
		"new C();", "(Expr (New C))",
		"-1;", "(Expr (Unary - 1))",
		"[a][0] = 1;", "(Expr (Assign (Index (Array a) 0) 1))",
		"'a';", "(Expr (Text a))",
	}
}

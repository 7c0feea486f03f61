package parse

import (
	"strings"
	"testing"

	"gusset/api"
	"gusset/tree"
)

// holds holds what a face answers against a tree, or against an error, with the place.
func holds(t *testing.T, f face, l []api.Token, at int, want string, place int, err api.Errno) {
	t.Helper()
	n, p, e := f.call(l, at)
	got := told(n)
	if err != api.OK {
		want = told(api.Node{})
	}
	if got != want || p != place || e != err {
		t.Errorf("%s(%.300s, %d): %.300s, %d, %d; want %.300s, %d, %d", f.name, source(l), at, got, p, e, want, place, err)
	}
}

// 6.1: what each rule takes, its tree and the token behind; and 6.2: its Form.
func TestTaken(t *testing.T) {
	for _, s := range samples() {
		l := tokens(t, s.source)
		holds(t, s.face, l, 0, s.tree, len(l), api.OK)
		n, _, _ := s.face.call(l, 0)
		if f := tree.Form(n); f != s.face.form {
			t.Errorf("%s(%s) has the form %d", s.face.name, s.source, f)
		}
	}
}

// 6.1: what stands behind is not looked at, but what could go on.
func TestBehind(t *testing.T) {
	ends := map[string]string{
		"Expr": "; ) ] } , : => { | b 5 'b' if else let typeof new ! $none",
		"Type": "; ) ] } , : => { ( = . + ? ! b 5 'b' if else null $none",
		"Stmt": "; ) ] } , : => { ( [ = . + ? | ! b 5 'b' if let typeof null $none",
	}
	for _, s := range samples() {
		l := tokens(t, s.source)
		for _, end := range tokens(t, ends[s.face.name]) {
			if s.face.name != "Stmt" && end.Text == "=>" && l[len(l)-1].Text == ")" {
				continue // it makes Params of what is in the brackets
			}
			holds(t, s.face, append(l[:len(l):len(l)], end), 0, s.tree, len(l), api.OK)
		}
	}
}

// 6.1: what stands ahead of the token at is not looked at, and is counted.
func TestAhead(t *testing.T) {
	ahead := tokens(t, "( { $none = => [ (")
	for _, s := range samples() {
		l := append(ahead[:len(ahead):len(ahead)], tokens(t, s.source)...)
		holds(t, s.face, l, len(ahead), s.tree, len(l), api.OK)
	}
	holds(t, exprs, tokens(t, "a b ("), 2, "", 3, api.ErrSyntax)
	holds(t, exprs, tokens(t, "(a, b) => c"), 1, "a", 2, api.OK)
	holds(t, exprs, tokens(t, "(a, b) => c"), 2, "", 2, api.ErrSyntax)
	holds(t, types, tokens(t, "() => T[]"), 3, "(TypeArray :T)", 6, api.OK)
	holds(t, stmts, tokens(t, "a; b; c;"), 2, "(Expr b)", 4, api.OK)
}

// 6.1: places that are none.
func TestPlaces(t *testing.T) {
	for _, f := range []face{exprs, types, stmts} {
		for _, s := range []string{"", "a", "a;", "(("} {
			l := tokens(t, s)
			for _, at := range []int{-1, -2, -400, -1 << 63} {
				holds(t, f, l, at, "", 0, api.ErrSyntax)
			}
			for _, at := range []int{0, 1, 2, 400, 1<<63 - 1 - len(l)} {
				holds(t, f, l, len(l)+at, "", len(l), api.ErrSyntax)
			}
		}
		holds(t, f, nil, 0, "", 0, api.ErrSyntax)
		holds(t, f, []api.Token{}, 0, "", 0, api.ErrSyntax)
	}
}

// 6.1: tokens of kinds that are none stand nowhere; a sign, a word or a text counts by its kind, too.
func TestKinds(t *testing.T) {
	for _, kind := range []int{api.TokenEnd, 6, -1, 1 << 62, -1 << 63} {
		for _, text := range []string{"", "a", "(", "function", ";"} {
			odd := api.Token{Kind: kind, Text: text, N: 1}
			for _, f := range []face{exprs, types, stmts} {
				holds(t, f, []api.Token{odd}, 0, "", 0, api.ErrSyntax)
			}
			holds(t, exprs, append(tokens(t, "a +"), odd), 0, "", 2, api.ErrSyntax)
			holds(t, exprs, append(tokens(t, "a."), odd), 0, "", 2, api.ErrSyntax)
			holds(t, exprs, append(tokens(t, "a"), odd), 0, "a", 1, api.OK)
			holds(t, stmts, append(tokens(t, "a"), odd), 0, "", 1, api.ErrSyntax)
			holds(t, stmts, append(tokens(t, "{"), odd), 0, "", 1, api.ErrSyntax)
			holds(t, types, append(tokens(t, "T |"), odd), 0, "", 2, api.ErrSyntax)
			holds(t, exprs, append(append(tokens(t, "(a"), odd), tokens(t, ") => a")...), 0, "", 2, api.ErrSyntax)
		}
	}
	for _, x := range []struct {
		face  face
		l     []api.Token
		tree  string
		place int
		err   api.Errno
	}{
		{exprs, []api.Token{{Kind: api.TokenName, Text: "("}}, "(", 1, api.OK},
		{exprs, []api.Token{{Kind: api.TokenText, Text: "("}}, "(Text ()", 1, api.OK},
		{exprs, []api.Token{{Kind: api.TokenText, Text: "true"}}, "(Text true)", 1, api.OK},
		{exprs, []api.Token{{Kind: api.TokenName, Text: "true"}}, "true", 1, api.OK},
		{exprs, []api.Token{{Kind: api.TokenWord, Text: "a"}}, "", 0, api.ErrSyntax},
		{exprs, []api.Token{{Kind: api.TokenWord, Text: "("}}, "", 0, api.ErrSyntax},
		{exprs, []api.Token{{Kind: api.TokenSign, Text: "true"}}, "", 0, api.ErrSyntax},
		{exprs, []api.Token{{Kind: api.TokenSign, Text: ""}}, "", 0, api.ErrSyntax},
		{exprs, []api.Token{{Kind: api.TokenSign, Text: "typeof"}, {Kind: api.TokenName, Text: "a"}}, "", 0, api.ErrSyntax},
		{exprs, []api.Token{{Kind: api.TokenWord, Text: "-"}, {Kind: api.TokenName, Text: "a"}}, "", 0, api.ErrSyntax},
		{exprs, []api.Token{{Kind: api.TokenName, Text: "a"}, {Kind: api.TokenText, Text: "+"}}, "a", 1, api.OK},
		{exprs, []api.Token{{Kind: api.TokenName, Text: "a"}, {Kind: api.TokenWord, Text: "="}}, "a", 1, api.OK},
		{exprs, []api.Token{{Kind: api.TokenName, Text: "a"}, {Kind: api.TokenSign, Text: ""}}, "a", 1, api.OK},
		{exprs, []api.Token{{Kind: api.TokenNumber, Text: "x", N: 7}}, "7", 1, api.OK},
		{exprs, []api.Token{{Kind: api.TokenName, Text: "x", N: 7, At: 3}}, "x", 1, api.OK},
		{types, []api.Token{{Kind: api.TokenName, Text: "null", N: 1}}, ":null", 1, api.OK},
		{types, []api.Token{{Kind: api.TokenSign, Text: "null"}}, "", 0, api.ErrSyntax},
		{types, []api.Token{{Kind: api.TokenText, Text: "a"}}, "", 0, api.ErrSyntax},
		{stmts, []api.Token{{Kind: api.TokenName, Text: "return"}, {Kind: api.TokenSign, Text: ";"}}, "(Expr return)", 2, api.OK},
		{stmts, []api.Token{{Kind: api.TokenText, Text: "{"}, {Kind: api.TokenSign, Text: ";"}}, "(Expr (Text {))", 2, api.OK},
		{stmts, []api.Token{{Kind: api.TokenWord, Text: "return"}, {Kind: api.TokenText, Text: ";"}}, "", 2, api.ErrSyntax},
	} {
		holds(t, x.face, x.l, 0, x.tree, x.place, x.err)
	}
	// Brackets within texts and names are none to be counted on the way to the =>.
	for _, kind := range []int{api.TokenName, api.TokenText, api.TokenWord, 6} {
		l := tokens(t, "(a, b) => c")
		l[3] = api.Token{Kind: kind, Text: ")"}
		if kind == api.TokenName {
			holds(t, exprs, l, 0, "(Func (Params (Param a _) (Param ) _)) _ (Block (Return c)))", len(l), api.OK)
			continue
		}
		holds(t, exprs, l, 0, "", 3, api.ErrSyntax)
	}
}

// ErrSyntax: where it is seen, of each rule in which one thing alone is otherwise.
func TestSyntax(t *testing.T) {
	for _, x := range []struct {
		face  face
		s     string
		place int
	}{
		// The chapter's.
		{exprs, "(a, b)", 2}, {exprs, "a + 1 = 2", 3}, {exprs, "f(,)", 2},
		// Primaries.
		{exprs, "if", 0}, {exprs, "class", 0}, {exprs, "let", 0}, {exprs, ")", 0}, {exprs, ";", 0}, {exprs, "=>", 0}, {exprs, "|", 0}, {exprs, "*", 0},
		{exprs, "()", 1}, {exprs, "(a", 2}, {exprs, "(a]", 2}, {exprs, "(a b)", 2}, {exprs, "(", 1},
		{exprs, "[", 1}, {exprs, "[,]", 1}, {exprs, "[a", 2}, {exprs, "[a b]", 2}, {exprs, "[a,,]", 3}, {exprs, "[a)", 2}, {exprs, "[a;", 2},
		{exprs, "{", 1}, {exprs, "{,}", 1}, {exprs, "{ a b }", 2}, {exprs, "{ if }", 2}, {exprs, "{ if, a }", 2}, {exprs, "{ 'a': 1 }", 1}, {exprs, "{ 1: 1 }", 1},
		{exprs, "{ a: }", 3}, {exprs, "{ a = 1 }", 2}, {exprs, "{ a: 1; }", 4}, {exprs, "{ a: 1 b: 2 }", 4}, {exprs, "{ a,, }", 3}, {exprs, "{ a: 1", 4}, {exprs, "{ a.b }", 2},
		{exprs, "new", 1}, {exprs, "new C", 2}, {exprs, "new C;", 2}, {exprs, "new if()", 1}, {exprs, "new (C)()", 1}, {exprs, "new C.d()", 2}, {exprs, "new C(,)", 3}, {exprs, "new C(1", 4}, {exprs, "new C[1]", 2},
		// What stands behind a primary.
		{exprs, "a.", 2}, {exprs, "a.1", 2}, {exprs, "a.'b'", 2}, {exprs, "a.(b)", 2}, {exprs, "a..b", 2}, {exprs, "a[]", 2}, {exprs, "a[b", 3}, {exprs, "a[b, c]", 3}, {exprs, "a[b)", 3}, {exprs, "f(", 2}, {exprs, "f(a", 3}, {exprs, "f(a b)", 3}, {exprs, "f(a,,)", 4}, {exprs, "f(a]", 3},
		// Operators.
		{exprs, "-", 1}, {exprs, "- *", 1}, {exprs, "!", 1}, {exprs, "typeof", 1}, {exprs, "typeof if", 1}, {exprs, "a +", 2}, {exprs, "a + * b", 2}, {exprs, "a ||", 2}, {exprs, "a || )", 2}, {exprs, "+a", 0},
		{exprs, "a ?", 2}, {exprs, "a ? b", 3}, {exprs, "a ? b :", 4}, {exprs, "a ? : c", 2}, {exprs, "a ? b, c : d", 3}, {exprs, "a ? b : ;", 4},
		{exprs, "a =", 2}, {exprs, "a = ;", 2}, {exprs, "= a", 0}, {exprs, "1 = a", 1}, {exprs, "f() = a", 3}, {exprs, "-a = b", 2}, {exprs, "a + b = c", 3}, {exprs, "a ? b : 1 = c", 5}, {exprs, "(a = b) = c", 5},
		{exprs, "(a ? b : c) = d", 7}, {exprs, "this = a", 1}, {exprs, "'a' = a", 1}, {exprs, "null = a", 1}, {exprs, "[a] = b", 3}, {exprs, "{ a } = b", 3}, {exprs, "new C() = a", 4}, {exprs, "function () {} = a", 5}, {exprs, "() => {} = a", 5}, {exprs, "a = 1 = 2", 3}, {exprs, "f(1 = 2)", 3}, {exprs, "a || b = c", 3},
		// Functions and arrows.
		{exprs, "function", 1}, {exprs, "function f() {}", 1}, {exprs, "function ()", 3}, {exprs, "function () a", 3}, {exprs, "function () => a", 3}, {exprs, "function (", 2}, {exprs, "function (,) {}", 2}, {exprs, "function (a b) {}", 3}, {exprs, "function (a,,) {}", 4}, {exprs, "function (if) {}", 2}, {exprs, "function ('a') {}", 2},
		{exprs, "function (a:) {}", 4}, {exprs, "function (a: 1) {}", 4}, {exprs, "function (a = 1) {}", 3}, {exprs, "function (): {}", 6}, {exprs, "function (): 1 {}", 4}, {exprs, "function () { a }", 5}, {exprs, "function () {", 4}, {exprs, "function (a; b) {}", 3},
		{exprs, "() =>", 3}, {exprs, "() => ;", 3}, {exprs, "() => { a }", 5}, {exprs, "() => { a: 1 }", 5}, {exprs, "(1) => a", 1}, {exprs, "(a b) => a", 2}, {exprs, "(a + b) => a", 2}, {exprs, "((a)) => a", 1}, {exprs, "(f(a), b) => c", 2}, {exprs, "(if) => a", 1}, {exprs, "(a.b) => a", 2}, {exprs, "(,) => a", 1}, {exprs, "(a,,) => a", 3}, {exprs, "(a:) => a", 3}, {exprs, "(a = 1) => a", 2},
		{exprs, "(1] => a", 1}, {exprs, "(1} => a", 1}, {exprs, "(1] a", 2}, {exprs, "(a] => a", 2}, {exprs, "([1) => 2", 3}, {exprs, "([1)] => 2", 1}, {exprs, "([1]) => 2", 1},
		{exprs, "(a: T)", 2}, {exprs, "(a, b) = > c", 2}, {exprs, "(a: T): U => a", 2},
		// Names that stand twice.
		{exprs, "(a, a) => 1", 3}, {exprs, "(a, b, a) => 1", 5}, {exprs, "(a: T, a: U) => 1", 5}, {exprs, "(a, a 1) => 1", 3}, {exprs, "function (a, b, b) {}", 6}, {exprs, "(a, b: (a: T, b: T) => U, b) => 1", 17}, {exprs, "(a: { b: T; b: T; }) => 1", 8}, {exprs, "(a: (b: T, b: T) => U, a) => 1", 8},
		{stmts, "function f(f, f) {}", 5}, {stmts, "function f(a, b, c, a, c) {}", 9},
		{types, "(a: T, a: T) => T", 5}, {types, "(a: T, a) => T", 5}, {types, "{ a: T; a: T; }", 5}, {types, "{ a: T; a }", 5}, {types, "{ a: T; b: T; if: T; if: T; }", 13}, {types, "{ a: { a: T; b: T; b: T; }; a: T; }", 12},
		// Types.
		{types, "", 0}, {types, "1", 0}, {types, "'a'", 0}, {types, "if", 0}, {types, "true", 0}, {types, "this", 0}, {types, "typeof a", 0}, {types, "[]", 0}, {types, "=>", 0}, {types, "|", 0}, {types, "| T", 0},
		{types, "T |", 2}, {types, "T | |", 2}, {types, "T[", 2}, {types, "T[1]", 2}, {types, "T[)", 2}, {types, "T[][", 4},
		{types, "(", 1}, {types, "()", 1}, {types, "(T", 2}, {types, "(T]", 2}, {types, "(T, U)", 2}, {types, "(T |)", 3},
		{types, "{", 1}, {types, "{ a }", 2}, {types, "{ a: }", 3}, {types, "{ a: T }", 4}, {types, "{ a: T, b: U }", 4}, {types, "{ a: T; ;}", 5}, {types, "{ ; }", 1}, {types, "{ 1: T; }", 1}, {types, "{ 'a': T; }", 1}, {types, "{ a: T;", 5}, {types, "{ a: T b: U; }", 4},
		{types, "() =>", 3}, {types, "() => 1", 3}, {types, "(a) => T", 2}, {types, "(a, b: T) => T", 2}, {types, "(b: T, a) => T", 6}, {types, "(T | U) => V", 2}, {types, "(if: T) => T", 1}, {types, "(a: T b: T) => T", 4}, {types, "(a: T,,) => T", 5}, {types, "(,) => T", 1}, {types, "(1] => T", 1}, {types, "(a:) => T", 3},
		// Statements.
		{stmts, "", 0}, {stmts, ";", 0}, {stmts, "}", 0}, {stmts, "else", 0}, {stmts, "class C {}", 0}, {stmts, "import", 0}, {stmts, "export", 0}, {stmts, "default", 0}, {stmts, ")", 0},
		{stmts, "a", 1}, {stmts, "a b;", 1}, {stmts, "a, b;", 1}, {stmts, "a :", 1}, {stmts, "a + ;", 2}, {stmts, "1 = 2;", 1}, {stmts, "a + 1 = 2;", 3},
		{stmts, "let", 1}, {stmts, "let x", 2}, {stmts, "let x;", 2}, {stmts, "let x: T;", 4}, {stmts, "let x =", 3}, {stmts, "let x = ;", 3}, {stmts, "let x = 1", 4}, {stmts, "let x = 1, y = 2;", 4}, {stmts, "let if = 1;", 1}, {stmts, "let 1 = 1;", 1}, {stmts, "let x: = 1;", 3}, {stmts, "let x: 1 = 1;", 3}, {stmts, "let x := 1;", 3}, {stmts, "const x;", 2}, {stmts, "const x: T", 4}, {stmts, "let let = 1;", 1}, {stmts, "let { x } = 1;", 1}, {stmts, "let x = 1 = 2;", 4},
		{stmts, "function", 1}, {stmts, "function () {}", 1}, {stmts, "function if() {}", 1}, {stmts, "function f {}", 2}, {stmts, "function f()", 4}, {stmts, "function f();", 4}, {stmts, "function f() => 1;", 4}, {stmts, "function f(): {}", 7}, {stmts, "function f() {", 5}, {stmts, "function f() { a }", 6}, {stmts, "function f()() {}", 4},
		{stmts, "if", 1}, {stmts, "if a {}", 1}, {stmts, "if () {}", 2}, {stmts, "if (a", 3}, {stmts, "if (a b) {}", 3}, {stmts, "if (a)", 4}, {stmts, "if (a) b;", 4}, {stmts, "if (a) ;", 4}, {stmts, "if (a) {", 5}, {stmts, "if (a, b) {}", 3}, {stmts, "if (a;) {}", 3}, {stmts, "if {}", 1},
		{stmts, "if (a) {} else", 7}, {stmts, "if (a) {} else b;", 7}, {stmts, "if (a) {} else ;", 7}, {stmts, "if (a) {} else while (b) {}", 7}, {stmts, "if (a) {} else if", 8}, {stmts, "if (a) {} else if {}", 8}, {stmts, "if (a) {} else if (b) c;", 11}, {stmts, "if (a) {} else else {}", 7},
		{stmts, "while", 1}, {stmts, "while a {}", 1}, {stmts, "while () {}", 2}, {stmts, "while (a) b;", 4}, {stmts, "while (a)", 4}, {stmts, "while (a) {", 5}, {stmts, "while (a]", 3},
		{stmts, "return", 1}, {stmts, "return a", 2}, {stmts, "return a b;", 2}, {stmts, "return }", 1}, {stmts, "return if;", 1}, {stmts, "return a, b;", 2},
		{stmts, "throw", 1}, {stmts, "throw ;", 1}, {stmts, "throw a", 2}, {stmts, "throw a b;", 2}, {stmts, "throw if;", 1},
		{stmts, "{", 1}, {stmts, "{ ; }", 1}, {stmts, "{ a }", 2}, {stmts, "{ a: 1 };", 2}, {stmts, "{ a; ]", 3}, {stmts, "{ a, b }", 2}, {stmts, "{ { }", 3}, {stmts, "{ else }", 1},
		{stmts, "function () {}();", 1}, {stmts, "{ a: 1 }.a;", 2},
	} {
		holds(t, x.face, tokens(t, x.s), 0, "", x.place, api.ErrSyntax)
	}
}

// 6.1: the longest one, and no more.
func TestLongest(t *testing.T) {
	for _, x := range []struct {
		face   face
		s      string
		tree   string
		behind int
	}{
		{exprs, "a b", "a", 1}, {exprs, "a; b", "a", 1}, {exprs, "a => b", "a", 1}, {exprs, "a | b", "a", 1}, {exprs, "a : b", "a", 1}, {exprs, "a !b", "a", 1}, {exprs, "a {}", "a", 1}, {exprs, "a ! = b", "a", 1},
		{exprs, "(a): T => a", "a", 3}, {exprs, "a = b c", "(Assign a b)", 3}, {exprs, "() => {} b", "(Func (Params) _ (Block))", 5}, {exprs, "() => {} => b", "(Func (Params) _ (Block))", 5}, {exprs, "() => a => b", "(Func (Params) _ (Block (Return a)))", 4},
		{exprs, "a ? b : c : d", "(Cond a b c)", 5}, {exprs, "function () {} {}", "(Func (Params) _ (Block))", 5},
		{types, "T || U", ":T", 1}, {types, "T = 1", ":T", 1}, {types, "T.U", ":T", 1}, {types, "T => U", ":T", 1}, {types, "T (", ":T", 1}, {types, "() => {} {", "(TypeFunc (Params) (TypeObject))", 5}, {types, "{} {}", "(TypeObject)", 2}, {types, "T ] [", ":T", 1}, {types, "T U", ":T", 1},
		{stmts, "a; b;", "(Expr a)", 2}, {stmts, "if (a) {} if (b) {}", "(If a (Block) _)", 6}, {stmts, "if (a) {} else {} else {}", "(If a (Block) (Block))", 9}, {stmts, "{} ()", "(Block)", 2}, {stmts, "{}.a", "(Block)", 2}, {stmts, "function f() {} ()", "(Function f (Params) _ (Block))", 6}, {stmts, "while (a) {} else {}", "(While a (Block))", 6}, {stmts, "return; a;", "(Return _)", 2}, {stmts, "{} else {}", "(Block)", 2},
	} {
		holds(t, x.face, tokens(t, x.s), 0, x.tree, x.behind, api.OK)
	}
}

// 6.2: brackets around an expression, and around a type, change nothing.
func TestBrackets(t *testing.T) {
	for _, s := range samples() {
		if s.face.name == "Stmt" {
			continue
		}
		for n := 1; n < 4; n++ {
			l := tokens(t, strings.Repeat("(", n)+s.source+strings.Repeat(")", n))
			holds(t, s.face, l, 0, s.tree, len(l), api.OK)
		}
	}
	for i := 0; i < len(primaries()); i += 2 {
		s := primaries()[i]
		plain, _, _ := Expr(tokens(t, s+" + a.b("+s+")"), 0)
		in, _, err := Expr(tokens(t, "(("+s+") + ((a).b)(("+s+")))"), 0)
		if told(plain) != told(in) || err != api.OK {
			t.Errorf("brackets in %s: %s, %s, %d", s, told(plain), told(in), err)
		}
	}
}

// 6.2: a beginning of the tokens that are used is refused, at its end at the latest, or is a whole one.
func TestBeginnings(t *testing.T) {
	for _, s := range samples() {
		l := tokens(t, s.source)
		for size := range l {
			n, at, err := s.face.call(l[:size], 0)
			switch {
			case err == api.OK && (at != size || tree.Form(n) != s.face.form):
				t.Errorf("the first %d of %s: %s, %d", size, s.source, told(n), at)
			case err == api.ErrSyntax && at > size, err != api.OK && err != api.ErrSyntax:
				t.Errorf("the first %d of %s: %d at %d", size, s.source, err, at)
			}
		}
	}
}

package parse

import (
	"slices"
	"strings"
	"testing"

	"gusset/api"
)

// marked reads a source in which a ^ stands where a rule begins that counts for ErrDeep, and a ~ where it has ended: its tokens, and the number of the token at which the 401st that is open at once would begin; -1, if there is none.
func marked(t *testing.T, s string) ([]api.Token, int) {
	t.Helper()
	var l []api.Token
	open, deep := 0, -1
	for len(s) > 0 {
		next := strings.IndexAny(s, "^~")
		if next < 0 {
			next = len(s)
		}
		l = append(l, tokens(t, s[:next])...)
		if next == len(s) {
			break
		}
		if s[next] == '~' {
			open--
		} else if open++; open == 401 && deep < 0 {
			deep = len(l)
		}
		s = s[next+1:]
	}
	if open != 0 {
		t.Fatal("marks that do not end")
	}
	return l, deep
}

// deep holds a marked source against what its marks say, and tells whether it was too deep.
func deep(t *testing.T, f face, s string) bool {
	t.Helper()
	l, place := marked(t, s)
	n, at, err := f.call(l, 0)
	want, wantErr := len(l), api.OK
	if place >= 0 {
		want, wantErr = place, api.ErrDeep
	}
	if at != want || err != wantErr || (err != api.OK) != (n.Kind == 0) {
		t.Errorf("%s(%.100s.., %d tokens): kind %d, %d, %d; want %d, %d", f.name, s, len(l), n.Kind, at, err, want, wantErr)
	}
	return place >= 0
}

// ErrDeep: each rule that counts, and each that does not, within so many others that one of them is the last that may be, and the next.
func TestDeepRules(t *testing.T) {
	t.Parallel()
	insides := map[string][]string{
		"Expr": {
			"^a~", "^(^a~)~", "^^-a~~", "^^!^typeof ^-a~~~~", "^[^a~, ^b~]~", "^[]~", "^f()~", "^{}~", "^{ a: ^b~, c, if: ^d~ }~", "^new C(^a~, ^b~)~", "^new C()~", "^f(^a~)[^b~].c(^d~)~",
			"^a + ^-b~ * (^c~)~", "^a ? ^b~ : ^c ? ^d~ : ^e~~~", "^a = ^b.c = ^d[^e~] = ^f~~~~",
			"^function (a: ^T~, b): ^U~ { ^let x: ^T~ = ^a~;~ ^return ^b~;~ }~", "^function () {}~", "^(a: ^T~, b) => ^a~~", "^() => { ^^a~;~ ^return;~ }~", "^() => {}~", "^() => ^() => ^a~~~",
			"^a || b && c === d < e + f * g - h~", "^a.b.c.d~", "^^-(^a~)~~", "^(^^-a~~)~",
		},
		"Type": {
			"^T~", "^null~", "^T | U[] | null~", "^(^T~)~", "^(^T | (^U~)[]~) | V~", "^{}~", "^{ a: ^T~; b: ^U[]~; }~", "^(a: ^T~, b: ^U~) => ^V~~", "^() => ^() => ^T~~~", "^T[][][]~",
		},
		"Stmt": {
			"^^a~;~", "^let x = ^a~;~", "^const x: ^T~ = ^a~;~", "^function f(a: ^T~): ^U~ { ^^a~;~ }~", "^function f() {}~", "^if (^a~) { ^^b~;~ } else { ^{ }~ }~", "^if (^a~) {}~",
			"^if (^a~) {} else ^if (^b~) {} else ^if (^c~) { ^return ^d~;~ }~~~", "^while (^a~) { ^throw ^b~;~ }~", "^{ ^{ ^{ }~ }~ ^^^-a~~;~ }~", "^{ }~", "^return;~", "^return ^(^a~)~;~", "^throw ^a~;~",
		},
	}
	for _, x := range []struct {
		face   face
		inside string
		around string // what stands around: % is the inside
	}{
		{exprs, "Expr", "^(%)~"}, {exprs, "Expr", "^[%]~"}, {exprs, "Expr", "^[^a~, %, ^b~]~"}, {exprs, "Expr", "^a[%]~"}, {exprs, "Expr", "^f(%)~"}, {exprs, "Expr", "^new C(^a~, %,)~"}, {exprs, "Expr", "^{ a, b: %, }~"},
		{exprs, "Expr", "^^-(%)~~"}, {exprs, "Expr", "^^typeof ^!(%)~~~"}, {exprs, "Expr", "^a + (%)~"}, {exprs, "Expr", "^(%) * b~"}, {exprs, "Expr", "^a = %~"}, {exprs, "Expr", "^a ? % : ^b~~"}, {exprs, "Expr", "^a ? ^b~ : %~"}, {exprs, "Expr", "^a || (%) ? ^b~ : ^c~~"},
		{exprs, "Expr", "^() => %~"}, {exprs, "Expr", "^() => { ^return %;~ }~"}, {exprs, "Expr", "^function () { ^{}~ ^let a = %;~ }~"}, {exprs, "Expr", "^f(^a~).b[%]()~"},
		{types, "Type", "^(%)~"}, {types, "Type", "^{ a: %; }~"}, {types, "Type", "^{ a: ^T~; b: %; }~"}, {types, "Type", "^() => %~"}, {types, "Type", "^(a: %) => ^T~~"}, {types, "Type", "^(a: ^T~, b: %) => ^T~~"}, {types, "Type", "^T | (%)[] | U~"},
		{stmts, "Stmt", "^{ % }~"}, {stmts, "Stmt", "^{ ^{}~ % ^^a~;~ }~"}, {stmts, "Stmt", "^if (^a~) { % }~"}, {stmts, "Stmt", "^if (^a~) { ^return;~ } else { % }~"}, {stmts, "Stmt", "^while (^a~) { % }~"}, {stmts, "Stmt", "^function f(a: ^T~): ^U~ { % }~"},
		{stmts, "Stmt", "^return ^() => { % }~;~"}, {stmts, "Stmt", "^let x = ^[^function () { % }~]~;~"},
	} {
		t.Run(x.around, func(t *testing.T) {
			t.Parallel()
			for _, in := range insides[x.inside] {
				if x.around == "^() => %~" && strings.HasPrefix(in, "^{") {
					continue // it is a Block there
				}
				deepWithin(t, x.face, x.around, in)
			}
		})
	}
	for _, in := range insides["Type"] {
		for n := 395; n <= 401; n++ {
			open, closed := strings.Repeat("^(", n), strings.Repeat(")~", n)
			deep(t, exprs, open+"^(a: "+in+") => ^a~~"+closed)
			deep(t, exprs, open+"^function (a, b: "+in+"): "+in+" {}~"+closed)
			deep(t, stmts, strings.Repeat("^{", n)+"^let x: "+in+" = ^a~;~"+strings.Repeat("}~", n))
		}
	}
	for n := 395; n <= 401; n++ {
		deep(t, stmts, strings.Repeat("^if (^a~) {} else ", n)+"^if (^b~) {}~"+strings.Repeat("~", n))
		deep(t, stmts, strings.Repeat("^if (^a~) {} else ", n)+"^if (^b~) {} else { }~"+strings.Repeat("~", n))
		deep(t, exprs, strings.Repeat("^a = ", n)+"^b~"+strings.Repeat("~", n))
		deep(t, exprs, "^"+strings.Repeat("^-", n)+"a"+strings.Repeat("~", n)+"~")
		deep(t, exprs, "^"+strings.Repeat("^typeof ", n)+"a"+strings.Repeat("~", n)+" + b~")
		deep(t, stmts, "^^"+strings.Repeat("^!", n)+"a"+strings.Repeat("~", n)+"~;~")
	}
}

// deepWithin holds the inside within so many of what stands around it that it comes to the edge and past it.
func deepWithin(t *testing.T, f face, around, in string) {
	open, closed, _ := strings.Cut(around, "%")
	each := strings.Count(open, "^") - strings.Count(open, "~")
	all, some := 0, 0
	for n := 395 / each; n <= 400/each+1; n++ {
		all++
		if deep(t, f, strings.Repeat(open, n)+in+strings.Repeat(closed, n)) {
			some++
		}
	}
	if some == 0 || some == all {
		t.Errorf("%s in %s is never, or always, too deep", in, around)
	}
}

// ErrDeep: told by numbers alone.
func TestDeepNumbers(t *testing.T) {
	for _, x := range []struct {
		face        face
		open, close string
		inside      string
		most        int // how many may be
		place       int // that of the error, where there is one more
	}{
		{exprs, "(", ")", "a", 399, 400},
		{exprs, "[", "]", "", 400, 400},
		{exprs, "f(", ")", "a", 399, 800},
		{exprs, "- ", "", "a", 399, 399},
		{exprs, "typeof ", "", "a", 399, 399},
		{exprs, "() => ", "", "a", 399, 1200},
		{types, "(", ")", "T", 399, 400},
		{types, "{ a: ", "; }", "T", 399, 1200},
		{types, "() => ", "", "T", 399, 1200},
		{stmts, "{", "}", "", 400, 400},
		{stmts, "{", "}", "a;", 398, 399},
		{stmts, "{", "}", "return;", 399, 400},
		{stmts, "while (a) {", "}", "", 399, 1997},
	} {
		for n := x.most; n <= x.most+1; n++ {
			l := tokens(t, strings.Repeat(x.open, n)+x.inside+strings.Repeat(x.close, n))
			place, err := len(l), api.OK
			if n > x.most {
				place, err = x.place, api.ErrDeep
			}
			if _, at, e := x.face.call(l, 0); at != place || e != err {
				t.Errorf("%d times %s: %d, %d; want %d, %d", n, x.open, at, e, place, err)
			}
		}
	}
}

// ErrDeep: it is told ahead of all else at that token, and what is wrong ahead of it is told ahead of it.
func TestDeepFirst(t *testing.T) {
	all := tokens(t, "a 1 'a' ) ] } ; , : . = => + * if else let class - ! typeof { [ ( function new $none")
	for _, x := range []struct {
		face  face
		open  string
		place int
	}{
		{exprs, strings.Repeat("(", 400), 400},
		{exprs, strings.Repeat("a = ", 400), 800},
		{exprs, strings.Repeat("a[", 400), 800},
		{exprs, strings.Repeat("(", 399) + "a ? ", 401},
		{exprs, strings.Repeat("(", 399) + "- ", 399},
		{types, strings.Repeat("(", 400), 400},
		{types, strings.Repeat("{ a: ", 400), 1200},
		{stmts, strings.Repeat("{", 399) + "throw ", 400},
		{stmts, strings.Repeat("{", 399) + "let a = ", 402},
		{stmts, strings.Repeat("{", 399) + "let a: ", 402},
		{stmts, strings.Repeat("{", 399) + "if (", 401},
		{stmts, strings.Repeat("{", 399) + "while (", 401},
	} {
		l := tokens(t, x.open)
		for _, odd := range all {
			holds(t, x.face, slices.Concat(l, []api.Token{odd}), 0, "", x.place, api.ErrDeep)
			holds(t, x.face, slices.Concat(l, []api.Token{odd, odd, odd}), 0, "", x.place, api.ErrDeep)
		}
		holds(t, x.face, slices.Concat(tokens(t, ")"), l), 0, "", 0, api.ErrSyntax)
	}
	holds(t, exprs, tokens(t, strings.Repeat("(", 399)), 0, "", 399, api.ErrSyntax)
	holds(t, exprs, tokens(t, strings.Repeat("(", 399)+")"), 0, "", 399, api.ErrSyntax)
	holds(t, exprs, tokens(t, strings.Repeat("(", 399)+"a b("), 0, "", 400, api.ErrSyntax)
	holds(t, types, tokens(t, strings.Repeat("(", 399)+"1"), 0, "", 399, api.ErrSyntax)
	holds(t, stmts, tokens(t, strings.Repeat("{", 399)+"else"), 0, "", 399, api.ErrDeep)
	holds(t, stmts, tokens(t, strings.Repeat("{", 398)+"else"), 0, "", 398, api.ErrSyntax)
	// What ends a list or a block begins nothing.
	deep(t, exprs, strings.Repeat("^(", 399)+"^f()~"+strings.Repeat(")~", 399))
	deep(t, stmts, strings.Repeat("^{", 399)+"^{}~"+strings.Repeat("}~", 399))
	// The count begins anew with each call, wherever it begins.
	l := tokens(t, strings.Repeat("(", 400)+"a"+strings.Repeat(")", 400))
	holds(t, exprs, l, 0, "", 400, api.ErrDeep)
	holds(t, exprs, l, 1, "a", 800, api.OK)
	holds(t, exprs, l, 400, "a", 401, api.OK)
}

// ErrDeep: behind the last token no rule begins, so a beginning that ends ahead of the token at which it would be seen is ErrSyntax, at its end.
func TestDeepBeginnings(t *testing.T) {
	for _, x := range []struct {
		face face
		each string
		last string
	}{
		{exprs, "^(", "^a"}, {exprs, "^[", "^a"}, {exprs, "^a[", "^a"}, {exprs, "^f(^a~, ", "^a"}, {exprs, "^new C(", "^a"}, {exprs, "^{ a: ", "^a"}, {exprs, "^a = ", "^a"}, {exprs, "^a ? ", "^a"}, {exprs, "^a ? ^b~ : ", "^a"},
		{exprs, "^() => ", "^a"}, {exprs, "^() => { ^return ", "^a"}, {exprs, "^function (a: ^T~): ^U~ { ^throw ", "^a"}, {exprs, "^^-(", "^a"}, {exprs, "^^typeof (", "^a"},
		{types, "^(", "^T"}, {types, "^T | (", "^T"}, {types, "^{ a: ", "^T"}, {types, "^() => ", "^T"},
		{stmts, "^{", "^^a"}, {stmts, "^if (^a~) {", "^^a"}, {stmts, "^if (^a~) {} else {", "^^a"}, {stmts, "^if (^a~) {} else ", "^if (^a"}, {stmts, "^while (^a~) {", "^^a"}, {stmts, "^function f(a: ^T~) {", "^let a = ^a"}, {stmts, "^{ ^{}~ ^let a = ^() => {", "^^a"},
	} {
		s := strings.Repeat(x.each, 401) + x.last
		l, place := marked(t, s+strings.Repeat("~", strings.Count(s, "^")-strings.Count(s, "~")))
		for size := range l {
			n, at, err := x.face.call(l[:size], 0)
			want, wantErr := size, api.ErrSyntax
			if size > place {
				want, wantErr = place, api.ErrDeep
			}
			// One that is shorter may be whole, or have brackets that are no arrow's while the => lacks.
			short := size < place && (err == api.OK && at == size || strings.Contains(x.each, "=>"))
			if !short && (at != want || err != wantErr || n.Kind != 0) {
				t.Fatalf("%s of the first %d of many %s: kind %d, %d, %d; want %d, %d", x.face.name, size, x.each, n.Kind, at, err, want, wantErr)
			}
		}
	}
	for size := range 403 {
		err := api.ErrSyntax
		if size > 400 {
			err = api.ErrDeep
		}
		holds(t, stmts, tokens(t, strings.Repeat("{", size)), 0, "", min(size, 400), err)
	}
}

// R1: what is nested far deeper, and what is long but not deep, in the order of the bound.
func TestLong(t *testing.T) {
	const many = 1 << 16
	for _, x := range []struct {
		face  face
		s     string
		place int
	}{
		{exprs, "(", 400}, {exprs, "[", 400}, {exprs, "{ a: ", 1200}, {exprs, "- ", 399}, {exprs, "() => ", 1200}, {exprs, "() => { return ", 1000}, {exprs, "a ? ", 800}, {exprs, "a = ", 800},
		{types, "(", 400}, {types, "{ a: ", 1200}, {types, "() => ", 1200}, {types, "(a: ", 2}, {stmts, "{", 400}, {stmts, "if (a) {} else ", 2795}, {stmts, "while (a) {", 1997}, {stmts, "return (", 2},
	} {
		err := api.ErrDeep
		if x.place == 2 {
			err = api.ErrSyntax
		}
		holds(t, x.face, tokens(t, strings.Repeat(x.s, many)), 0, "", x.place, err)
	}
	for _, x := range []struct {
		face              face
		begin, each, last string
	}{
		{exprs, "a", " + a", ""}, {exprs, "a", ".b", ""}, {exprs, "a", "[b]", ""}, {exprs, "a", "()", ""}, {exprs, "f(", "a, ", ")"}, {exprs, "[", "(a), ", "]"}, {exprs, "{", "a, ", "}"}, {exprs, "new C(", "-1, ", "b)"},
		{types, "T", "[]", ""}, {types, "T", " | (T | U)", ""}, {stmts, "{", "a;", "}"}, {stmts, "{", "{ return; }", "}"}, {stmts, "{", "(a) => a;", "}"}, {stmts, "function f() {", "if (a) {} else {}", "}"},
	} {
		l := tokens(t, x.begin+strings.Repeat(x.each, many)+x.last)
		n, at, err := x.face.call(l, 0)
		if n.Kind == 0 || at != len(l) || err != api.OK {
			t.Errorf("%s with many %s: %d, %d", x.begin, x.each, at, err)
		}
	}
}

package module

import (
	"strings"
	"testing"

	"gusset/api"
)

// marked reads a source in which a ^ stands where a rule begins that counts for ErrDeep, and a ~ where it has ended: its tokens, and the number of the token at which the 401st that is open at once would begin; -1, if there is none.
func marked(t *testing.T, s string) ([]api.Token, int) {
	t.Helper()
	var l []api.Token
	open, deep := 0, -1
	for len(s) > 0 {
		next := strings.IndexAny(s, "^~")
		if next < 0 {
			next = len(s)
		}
		l = append(l, tokens(t, s[:next])...)
		if next == len(s) {
			break
		}
		if s[next] == '~' {
			open--
		} else if open++; open == 401 && deep < 0 {
			deep = len(l)
		}
		s = s[next+1:]
	}
	if open != 0 {
		t.Fatal("marks that do not end")
	}
	return l, deep
}

// ErrDeep: class, alias, import and export open no rule; what stands in them does as layer 6 has it; of each the last that may be, and the next. Beginnings that end ahead of the token at which it would be seen are ErrSyntax.
func TestDeep(t *testing.T) {
	expr := func(n int) string { return strings.Repeat("^(", n) + "^a~" + strings.Repeat(")~", n) }
	typ := func(n int) string { return strings.Repeat("^{ a: ", n) + "^T~" + strings.Repeat("; }~", n) }
	stmt := func(n int) string { return strings.Repeat("^{ ", n) + "^return;~" + strings.Repeat("}~", n) }
	for _, x := range []struct {
		inside func(int) string
		around string // what stands around: % is the inside
		most   int    // how many of it may be
	}{
		{expr, "class C { a = %; }", 399}, {expr, "class C { b = ^1~; a: ^T~ = %; c() { } }", 399}, {expr, "class C { m() { ^%;~ } }", 398}, {expr, "class C { constructor() { ^^a~;~ ^let b = %;~ } }", 398},
		{expr, "class C { m() { ^if (%) { }~ } }", 398}, {expr, "export default %;", 399}, {expr, "export ^let a = %;~", 398}, {expr, "export ^const a: ^T~ = %;~", 398}, {expr, "^%;~", 398}, {expr, "export class C { a = %; }", 399}, {expr, "export default class C { a = %; }", 399},
		{typ, "type T = %;", 399}, {typ, "export type T = %;", 399}, {typ, "class C { a: % = ^1~; }", 399}, {typ, "class C { m(a: ^T~, b: %) { } }", 399}, {typ, "class C { m(): % { } }", 399}, {typ, "class C { constructor(a: %) { } }", 399}, {typ, "export ^let a: % = ^1~;~", 398}, {typ, "export ^function f(a: %) { }~", 398}, {typ, "export default ^function f(): % { }~", 398},
		{stmt, "%", 399}, {stmt, "class C { m() { % } }", 399}, {stmt, "class C { a = ^1~; m() { ^^a~;~ % ^return;~ } n() { } }", 399}, {stmt, "class C { constructor(a) { % } }", 399}, {stmt, "export ^function f() { % }~", 398}, {stmt, "export default ^function f() { % }~", 398}, {stmt, "export default class C { m() { % } }", 399}, {stmt, "class C { a = ^() => { % }~; }", 398}, {stmt, "export default ^() => { % }~;", 398}, {stmt, "export class C { m() { % } }", 399},
	} {
		for n := 395; n <= 402; n++ {
			s := strings.ReplaceAll(x.around, "%", x.inside(n))
			l, place := marked(t, s)
			if place >= 0 != (n > x.most) {
				t.Fatalf("%d in %s: deep at %d", n, x.around, place)
			}
			want, wantErr := len(l), api.OK
			if place >= 0 {
				want, wantErr = place, api.ErrDeep
				holds(t, l[:place], 0, "", place, api.ErrSyntax)
				holds(t, l[:place+1], 0, "", place, api.ErrDeep)
			}
			if got, at, err := Item(l, 0); at != want || err != wantErr || (got.Kind != 0) != (err == api.OK) {
				t.Errorf("%d in %s: kind %d, %d, %d; want %d, %d", n, x.around, got.Kind, at, err, want, wantErr)
			}
		}
	}
}

// ErrDeep: it is told ahead of all else at its token, and what is wrong ahead of it is told ahead of it.
func TestDeepFirst(t *testing.T) {
	all := tokens(t, "a 1 'a' ) ] } ; , : . = => + * if else let class import export - ! { [ ( $none")
	for _, s := range []string{
		"class C { a = " + strings.Repeat("(", 400), "class C { m() { " + strings.Repeat("{ ", 399) + "throw", "type T = " + strings.Repeat("(", 400), "export default " + strings.Repeat("a[ ", 400), "export let a = " + strings.Repeat("(", 399), "export function f() {" + strings.Repeat("{ ", 398) + "throw",
	} {
		l := tokens(t, s)
		holds(t, l, 0, "", len(l), api.ErrSyntax)
		for _, odd := range all {
			holds(t, append(l[:len(l):len(l)], odd), 0, "", len(l), api.ErrDeep)
			holds(t, append(l[:len(l):len(l)], odd, odd), 0, "", len(l), api.ErrDeep)
		}
		l = append(l, l[0])
		l[1] = tokens(t, ")")[0]
		holds(t, l, 0, "", 1, api.ErrSyntax)
	}
	deep := strings.Repeat("{", 401)
	holds(t, tokens(t, "class C { a = 1; a() "+deep), 0, "", 7, api.ErrSyntax)
	holds(t, tokens(t, "class C { constructor() {} constructor() "+deep), 0, "", 8, api.ErrSyntax)
	holds(t, tokens(t, "class C { m(a, a) "+deep), 0, "", 7, api.ErrSyntax)
	holds(t, tokens(t, "class C { m() "+deep), 0, "", 407, api.ErrSyntax)
	holds(t, tokens(t, "class C { m() {"+deep), 0, "", 407, api.ErrDeep)
}

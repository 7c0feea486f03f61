package lex

import (
	"math"
	"slices"
	"strings"
	"testing"

	"gusset/api"
)

// shows holds what Show answers against a text.
func shows(t *testing.T, want string, l ...api.Token) {
	t.Helper()
	if s := Show(l); s != want {
		t.Errorf("Show(%v): %.200q, want %.200q", some(l), s, want)
	}
}

// several are tokens of all kinds that may be: all words and signs, and others with what could go wrong in them.
func several() []api.Token {
	var l []api.Token
	for _, s := range strings.Fields(allWords) {
		l = append(l, word(s, 0))
	}
	for _, s := range strings.Fields(allSigns) {
		l = append(l, sgn(s, 0))
	}
	for _, s := range []string{"a", "_", "$", "$1", "a$b", "ä1", "ωя", "let_", "from", "undefine"} {
		l = append(l, name(s, 0))
	}
	for _, n := range []int{0, 1, 10, 1<<53 - 1} {
		l = append(l, num(n, 0))
	}
	for _, s := range []string{"", "a", "'", `"`, `\`, "\n\r\t\x00\x7f", "// a", "/*", "*/", "ä×€\U0010ffff\ufffd", " ", "let", "\u2028"} {
		l = append(l, text(s, 0))
	}
	return l
}

// 4.3: of each kind its text, one blank between any two.
func TestShow(t *testing.T) {
	shows(t, "")
	shows(t, "a", name("a", 0))
	shows(t, `a "x\""`, name("a", 0), text(`x"`, 0))
	shows(t, `let a = 10 ; a . b === "ä\n"`, word("let", 0), name("a", 0), sgn("=", 0), num(10, 0), sgn(";", 0),
		name("a", 0), sgn(".", 0), name("b", 0), sgn("===", 0), text("ä\n", 0))
	shows(t, `""`, text("", 0))
	shows(t, `"" ""`, text("", 0), text("", 0))
	shows(t, "0 9007199254740991", num(0, 0), num(api.MaxSafe, 0))
	shows(t, "$1 a$", name("$1", 0), name("a$", 0))
	shows(t, "/ / / *", sgn("/", 0), sgn("/", 0), sgn("/", 0), sgn("*", 0))
	shows(t, `"it's" "\\" "\u{0}"`, text("it's", 0), text(`\`, 0), text("\x00", 0))
}

// 4.3: where a token says that it stood plays no part.
func TestShowAt(t *testing.T) {
	for _, at := range []int{0, 1, -1, 77, math.MaxInt, math.MinInt} {
		shows(t, `let a 1 "b" ;`, word("let", at), name("a", at), num(1, at), text("b", at), sgn(";", at))
	}
}

// mayNotBe are tokens that Lex of their text does not tell.
func mayNotBe() []api.Token {
	l := []api.Token{
		{}, {Kind: api.TokenEnd, Text: "a"}, {Kind: api.TokenEnd, N: 1}, {Kind: 6, Text: "a"}, {Kind: -1, Text: "a"}, {Kind: math.MaxInt}, {Kind: math.MinInt, Text: ";"},
		{Kind: api.TokenName, Text: "a", N: 1}, {Kind: api.TokenWord, Text: "if", N: -1}, {Kind: api.TokenSign, Text: ";", N: 3}, {Kind: api.TokenText, Text: "a", N: 1},
		{Kind: api.TokenNumber, N: 1, Text: "1"}, {Kind: api.TokenNumber, Text: "1"}, {Kind: api.TokenNumber, N: 5, Text: " "},
	}
	for _, n := range []int{-1, -7, 1 << 53, 1<<53 + 1, math.MaxInt, math.MinInt} {
		l = append(l, num(n, 0))
	}
	for _, s := range []string{"", "if", "undefined", "1", "1a", " a", "a ", "a b", "a//", "a/**/", "//a", "a;", ";", "'a'", "\"a\"", "a\xff", "\xff", "\xc3", "a×", "a-b", "@", "/*", "\n"} {
		l = append(l, name(s, 0))
	}
	for _, s := range []string{"", "a", "If", "IF", " if", "if ", "if//", "if else", "from", "let$", "===", "1", "'if'"} {
		l = append(l, word(s, 0))
	}
	for _, s := range []string{"", "==", "!=", "====", "&", "&&&", "...", "//", "/*", "/**/", "= ", " =", "\n;", "a", "if", "1", "''", "{}", "++", "@", "->", "??", "?.", "=/**/", ";//"} {
		l = append(l, sgn(s, 0))
	}
	for _, s := range []string{"\xff", "a\xc3", "\xed\xa0\x80", "\x80"} {
		l = append(l, text(s, 0))
	}
	return l
}

// 4.3: "", if one of them may not be, wherever it stands.
func TestShowMayNotBe(t *testing.T) {
	for _, x := range mayNotBe() {
		shows(t, "", x)
		shows(t, "", x, name("a", 0))
		shows(t, "", name("a", 0), x)
		shows(t, "", num(1, 0), x, sgn(";", 0))
		shows(t, "", x, x)
	}
}

// 4.3: a token that is told of no source on its own may not be, though it and its neighbour may be read together.
func TestShowEachAlone(t *testing.T) {
	shows(t, "", sgn("&", 0), sgn("&", 0))
	shows(t, "", name("'a", 0), name("b'", 0))
	shows(t, "", sgn("/*", 0), name("a", 0), sgn("*/", 0))
}

// withoutAt is l, each token at 0.
func withoutAt(l []api.Token) []api.Token {
	l = slices.Clone(l)
	for i := range l {
		l[i].At = 0
	}
	return l
}

// 4.4: Lex of Show of tokens that may be is these, but for At.
func TestThereAndBack(t *testing.T) {
	back := func(l ...api.Token) {
		t.Helper()
		s := Show(l)
		if got, at, err := Lex(s, true); !slices.Equal(withoutAt(got), l) || at != 0 || err != api.OK {
			t.Fatalf("Lex of Show of %v: %v, %d, %d", l, got, at, err)
		}
	}
	all := several()
	back(all...)
	for _, a := range all {
		back(a)
		for _, b := range all {
			back(a, b)
		}
	}
	for _, a := range all[15:50] {
		for _, b := range all[15:50] {
			for _, c := range all[15:50] {
				back(a, b, c)
			}
		}
	}
}

// 4.4: what Lex tells may be, and shown and read again it is the same.
func TestBackAndThere(t *testing.T) {
	for _, s := range texts(4, "a", "let", "$", "1", " ", "'", "\"", "/", "*", "=", "\n") {
		l, _, err := Lex(s, true)
		if err != api.OK {
			continue
		}
		shown := Show(l)
		again, _, e := Lex(shown, true)
		if !slices.Equal(withoutAt(again), withoutAt(l)) || e != api.OK || Show(again) != shown {
			t.Fatalf("Lex(%q): %v, shown %q, read again %v, %d", s, l, shown, again, e)
		}
	}
}

// 4.4: other blanks and notes behind those that part two tokens change nothing but At.
func TestBlanksChangeNothing(t *testing.T) {
	all := several()
	for i, gap := range []string{"\n", "\t", "\r\n", "   ", " // a\n", " /* b */", "\n/**/\t", " //\n//\n", " /* // */ ", " /*\xff*/", "\n// /*\n", "/* */ ", "// x\n"} {
		for _, a := range all {
			if strings.HasPrefix(gap, "/") && a.Text == "/" {
				continue // these would be another note together
			}
			for j, b := range all {
				if (i+j)%3 != 0 {
					continue
				}
				s := gap + Show([]api.Token{a}) + gap + Show([]api.Token{b}) + gap
				if l, at, err := Lex(s, true); !slices.Equal(withoutAt(l), []api.Token{a, b}) || at != 0 || err != api.OK {
					t.Fatalf("Lex(%q): %v, %d, %d", s, l, at, err)
				}
			}
		}
	}
}

// R4: the list that is handed in, with what lies behind its end, stays as it was.
func TestShowChangesNothing(t *testing.T) {
	room := []api.Token{name("a", 5), num(1, -3), sgn(";", 9), text("x", 2)}
	want := slices.Clone(room)
	if s := Show(room[:2]); s != "a 1" {
		t.Errorf("Show: %q", s)
	}
	if !slices.Equal(room, want) {
		t.Errorf("Show changed its list: %v", room)
	}
}

// R1: very many tokens are shown, and a very long text that is no token.
func TestShowLong(t *testing.T) {
	const n = 1 << 18
	if s := Show(slices.Repeat([]api.Token{name("a", 0), sgn(";", 0)}, n)); s != strings.Repeat("a ; ", n)[:4*n-1] {
		t.Errorf("Show of %d names and signs: %d bytes", n, len(s))
	}
	shows(t, "", name(strings.Repeat("a ", n), 0))
	long := strings.Repeat("ä", n)
	shows(t, long, name(long, 0))
	shows(t, `"`+long+`"`, text(long, 0))
}

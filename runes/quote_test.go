package runes

import (
	"strings"
	"testing"

	"gusset/api"
)

func TestQuote(t *testing.T) { // 1.3
	for _, c := range [][2]string{
		{"", `""`},
		{"abc", `"abc"`},
		{"a\n\"\u0001", `"a\n\"\u{1}"`},
		{`\`, `"\\"`},
		{`\n`, `"\\n"`},
		{"it's", `"it's"`},
		{"\t\r", `"\t\u{d}"`},
		{"\x00\x0b\x1f ", `"\u{0}\u{b}\u{1f} "`},
		{"~\x7f\u0080\u009f", "\"~\\u{7f}\u0080\u009f\""},
		{"äж€\U0001f600\U0010ffff", "\"äж€\U0001f600\U0010ffff\""},
		{"\xff", `"\u{ff}"`},
		{"\x80a\xc3", `"\u{80}a\u{c3}"`},
		{"\xed\xa0\x80", `"\u{ed}\u{a0}\u{80}"`},
		{"\ufffd\xef\xbf", "\"\ufffd\\u{ef}\\u{bf}\""},
	} {
		if got := Quote(c[0]); got != c[1] {
			t.Errorf("Quote(%q): %s, want %s", c[0], got, c[1])
		}
	}
}

func TestUnquote(t *testing.T) { // 1.4
	for _, c := range []struct {
		s, want string
		n       int
	}{
		{`""`, "", 2},
		{`''`, "", 2},
		{`"a"`, "a", 3},
		{`'a\u{e4}'x`, "aä", 9},
		{`"\n\t\"\'\\"`, "\n\t\"'\\", 12},
		{`'\n\t\"\'\\'`, "\n\t\"'\\", 12},
		{`'say "it"'`, `say "it"`, 10},
		{`"it's"`, "it's", 6},
		{`"a""b"`, "a", 3},
		{`"\\"\q`, `\`, 4},
		{`"\u{0}\u{9}\u{a}\u{D}"`, "\x00\t\n\r", 22},
		{`"\u{41}\u{0041}\u{000041}"`, "AAA", 26},
		{`"\u{abcde}\u{ABCDE}\u{fF}"`, "\U000abcde\U000abcde\u00ff", 26},
		{`"\u{d7ff}\u{e000}\u{10ffff}"`, "\ud7ff\ue000\U0010ffff", 28},
		{"\"\x00\t\x7fä€\U0001f600\"", "\x00\t\x7fä€\U0001f600", 14},
		{"'\ufffd'", "\ufffd", 5},
		{"'a'\xff\n", "a", 3},
		{"'a'\\", "a", 3},
	} {
		if got, n, e := Unquote(c.s); got != c.want || n != c.n || e != api.OK {
			t.Errorf("Unquote(%q): %q %d %d, want %q %d", c.s, got, n, e, c.want, c.n)
		}
	}
}

func TestUnquoteRefuses(t *testing.T) { // 1.4
	for _, s := range []string{
		"", "a", " \"a\"", "`a`", "\\\"a\"", "\xff'a'", "\u201ca\u201d", // no quote ahead
		`"`, `'`, `"a`, `"a'`, `'a"`, `"a\"`, `"\\\"`, `"\`, `"a\u`, `"\u{`, `"\u{41`, `"\u{41}`, // no end
		"\"a\nb\"", "\"a\rb\"", "'\n'", "\"a\\\nb\"", "\"\\\r\"", // lines
		"'\xff'", "'a\xc3'", "'\xed\xa0\x80'", "'\xc0\x80'", "'\xef\xbf'", "'\\\xff'", "'\\u{\xff}'", // bytes of no rune
		`"\q"`, `"\N"`, `"\r"`, `"\0"`, `"\x41"`, `"\ "`, "\"\\\ufffd\"", `"\U{41}"`, // no such \
		`"\u"`, `"\u41"`, `"\u0041"`, `"\u(41)"`, `"\u(41}"`, `"\u041}"`, `"\u}"`, `"\u{}"`, `"\u{ 41}"`, `"\u{41 }"`, `"\u{g}"`, `"\u{-1}"`, `"\u{+1}"`, `"\u{4_1}"`, `"\u{41"`, // no number
		`"\u{0000041}"`, `"\u{0000000}"`, `"\u{1234567}"`, // too many digits
		`"\u{d800}"`, `"\u{dbff}"`, `"\u{DC00}"`, `"\u{dfff}"`, `"\u{110000}"`, `"\u{ffffff}"`, // of no rune
		`"good\u{41}then\q"`,
	} {
		if got, n, e := Unquote(s); got != "" || n != 0 || e != api.ErrText {
			t.Errorf("Unquote(%q): %q %d %d", s, got, n, e)
		}
	}
}

// TestUnquoteNumbers goes through all numbers that six digits can say.
func TestUnquoteNumbers(t *testing.T) { // 1.4
	const digits = "0123456789abcdef"
	for n := range 1 << 24 {
		if n > 0x111000 && n%4093 != 0 { // far above all runes a part of them will do
			continue
		}
		s := []byte(`'\u{000000}'`)
		for i := range 6 {
			s[9-i] = digits[n>>(4*i)&15]
		}
		want, size, err := string(rune(n)), len(s), api.OK
		if n > 0x10FFFF || 0xD800 <= n && n <= 0xDFFF {
			want, size, err = "", 0, api.ErrText
		}
		if got, k, e := Unquote(string(s)); got != want || k != size || e != err {
			t.Fatalf("Unquote(%s): %q %d %d, want %q %d %d", s, got, k, e, want, size, err)
		}
	}
}

func TestThereAndBack(t *testing.T) { // 1.5
	behind := []string{"", "x", "\"", "'", "\\", "\n", "\xff", "\"a\""}
	check := func(s string) {
		q := Quote(s)
		for _, b := range behind {
			if got, n, e := Unquote(q + b); got != s || n != len(q) || e != api.OK {
				t.Fatalf("Unquote(%q): %q %d %d, want %q %d", q+b, got, n, e, s, len(q))
			}
		}
	}
	for s := range texts {
		if Valid(s) {
			check(s)
		}
	}
	var all strings.Builder
	for r := range rune(0x110000) {
		if 0xD800 <= r && r <= 0xDFFF {
			continue
		}
		all.WriteRune(r)
		if r < 0x3000 || r > 0xFFF0 && r < 0x10010 || r > 0x10FFF0 {
			check(string(r))
			check("a" + string(r) + "\\u{" + string(r) + "}")
		}
	}
	check(all.String())
}

// TestQuoteIsRunes: what is shown can be read, whatever bytes it is of.
func TestQuoteIsRunes(t *testing.T) { // 1.3
	for s := range texts {
		q := Quote(s)
		if !Valid(q) || strings.ContainsAny(q, "\n\r") {
			t.Fatalf("Quote(%q): %q", s, q)
		}
		if _, n, e := Unquote(q); n != len(q) || e != api.OK {
			t.Fatalf("Unquote(%q): %d %d", q, n, e)
		}
	}
}

package lex

import (
	"fmt"
	"regexp"
	"slices"
	"strconv"
	"strings"
	"testing"
	"unsafe"

	"gusset/api"
	"gusset/runes"
)

// The tokens that the chapter knows, each at a byte.
func name(s string, at int) api.Token {
	return api.Token{Kind: api.TokenName, Text: s, At: at}
}

func word(s string, at int) api.Token {
	return api.Token{Kind: api.TokenWord, Text: s, At: at}
}

func num(n, at int) api.Token {
	return api.Token{Kind: api.TokenNumber, N: n, At: at}
}

func text(s string, at int) api.Token {
	return api.Token{Kind: api.TokenText, Text: s, At: at}
}

func sgn(s string, at int) api.Token {
	return api.Token{Kind: api.TokenSign, Text: s, At: at}
}

// The chapter's words and signs, in its order.
const (
	allWords = "class const default else export false function if import let new null return this throw true typeof undefined while"
	allSigns = "=== !== <= >= && || => { } ( ) [ ] ; , : . ? = + - * / % < > ! |"
)

// some are as many tokens of a list as a failure can tell.
func some(l []api.Token) []string {
	var told []string
	for _, x := range l[:min(len(l), 30)] {
		told = append(told, fmt.Sprintf("%d %.40q %d at %d", x.Kind, x.Text, x.N, x.At))
	}
	return told
}

// reads holds what Lex answers against tokens.
func reads(t *testing.T, s string, script bool, want ...api.Token) {
	t.Helper()
	if l, at, err := Lex(s, script); !slices.Equal(l, want) || at != 0 || err != api.OK {
		t.Errorf("Lex(%.200q, %t): %v, %d, %d, want %v", s, script, some(l), at, err, some(want))
	}
}

// readsBoth does so of a source as a module's and as a script's.
func readsBoth(t *testing.T, s string, want ...api.Token) {
	t.Helper()
	reads(t, s, false, want...)
	reads(t, s, true, want...)
}

// refuses holds what Lex answers against an error and its byte.
func refuses(t *testing.T, s string, script bool, at int, err api.Errno) {
	t.Helper()
	if l, a, e := Lex(s, script); len(l) != 0 || a != at || e != err {
		t.Errorf("Lex(%.200q, %t): %v, %d, %d, want %d, %d", s, script, some(l), a, e, at, err)
	}
}

func refusesBoth(t *testing.T, s string, at int, err api.Errno) {
	t.Helper()
	refuses(t, s, false, at, err)
	refuses(t, s, true, at, err)
}

const letters = `a-zA-Z\x{C0}-\x{D6}\x{D8}-\x{F6}\x{F8}-\x{24F}\x{391}-\x{3A1}\x{3A3}-\x{3C9}\x{410}-\x{44F}`

var (
	passed     = regexp.MustCompile(`^(?:[\t\n\r ]|//[^\n]*|/\*(?s:.*?)\*/)`)
	openNote   = regexp.MustCompile(`^/\*`)
	moduleName = regexp.MustCompile(`^[_` + letters + `][_0-9` + letters + `]*`)
	scriptName = regexp.MustCompile(`^[_$` + letters + `][_$0-9` + letters + `]*`)
	digits     = regexp.MustCompile(`^[0-9]+`)
	oneSign    = regexp.MustCompile(`^(?:===|!==|[<>]=|&&|\|\||=>|[{}()\[\];,:.?=+*/%<>!|-])`)
)

// told is what the chapter says of a source, told by patterns in its order.
func told(s string, script bool) (l []api.Token, at int, err api.Errno) {
	names := moduleName
	if script {
		names = scriptName
	}
	for at < len(s) {
		rest := s[at:]
		if p := passed.FindString(rest); p != "" {
			at += len(p)
			continue
		}
		if openNote.MatchString(rest) {
			return nil, at, api.ErrSign
		}
		size := 0
		if p := names.FindString(rest); p != "" {
			kind := api.TokenName
			if slices.Contains(strings.Fields(allWords), p) {
				kind = api.TokenWord
			}
			l, size = append(l, api.Token{Kind: kind, Text: p, At: at}), len(p)
		} else if p := digits.FindString(rest); p != "" {
			n, e := strconv.Atoi(p)
			if p[0] == '0' && p != "0" || names.MatchString(rest[len(p):]) {
				return nil, at, api.ErrSign
			}
			if e != nil || n >= 1<<53 {
				return nil, at, api.ErrNumber
			}
			l, size = append(l, num(n, at)), len(p)
		} else if rest[0] == '"' || rest[0] == '\'' {
			said, n, e := runes.Unquote(rest)
			if e != api.OK {
				return nil, at, api.ErrSign
			}
			l, size = append(l, text(said, at)), n
		} else if p := oneSign.FindString(rest); p != "" {
			l, size = append(l, sgn(p, at)), len(p)
		} else {
			return nil, at, api.ErrSign
		}
		at += size
	}
	return l, 0, api.OK
}

// asTold holds Lex of a source against the patterns, and against what follows of it (4.4): At rises, and what a module's source says it says as a script's.
func asTold(t *testing.T, s string) {
	t.Helper()
	for _, script := range []bool{false, true} {
		l, at, err := Lex(s, script)
		wantL, wantAt, wantErr := told(s, script)
		if !slices.Equal(l, wantL) || at != wantAt || err != wantErr {
			t.Fatalf("Lex(%q, %t): %v, %d, %d, want %v, %d, %d", s, script, l, at, err, wantL, wantAt, wantErr)
		}
		for i := range l {
			if i > 0 && l[i].At <= l[i-1].At {
				t.Fatalf("Lex(%q, %t): At does not rise: %v", s, script, l)
			}
		}
		if !script && err == api.OK {
			reads(t, s, true, l...)
		}
	}
}

// texts are all texts of at most n of the pieces.
func texts(n int, pieces ...string) []string {
	l := []string{""}
	for begin := 0; n > 0; n-- {
		end := len(l)
		for _, s := range l[begin:end] {
			for _, p := range pieces {
				l = append(l, s+p)
			}
		}
		begin = end
	}
	return l
}

// 4.1: the words, rising.
func TestWords(t *testing.T) {
	l := Words()
	if !slices.Equal(l, strings.Fields(allWords)) || !slices.IsSorted(l) {
		t.Errorf("Words(): %q", l)
	}
}

// 4.2: the chapter's examples.
func TestLexExamples(t *testing.T) {
	readsBoth(t, "let a_1 = 10;", word("let", 0), name("a_1", 4), sgn("=", 8), num(10, 10), sgn(";", 12))
	refuses(t, "a$", false, 1, api.ErrSign)
	reads(t, "a$", true, name("a$", 0))
	readsBoth(t, "a===b", name("a", 0), sgn("===", 1), name("b", 4))
	readsBoth(t, "a==b", name("a", 0), sgn("=", 1), sgn("=", 2), name("b", 3))
	refusesBoth(t, "007", 0, api.ErrSign)
	refusesBoth(t, "1a", 0, api.ErrSign)
	refusesBoth(t, "9007199254740992", 0, api.ErrNumber)
	refusesBoth(t, "x /* y", 2, api.ErrSign)
	refusesBoth(t, "'a", 0, api.ErrSign)
	refusesBoth(t, "\"\\q\"", 0, api.ErrSign)
	refusesBoth(t, "a & b", 2, api.ErrSign)
	readsBoth(t, "ä//b", name("ä", 0))
}

// 4.2: what the source of a module looks like.
func TestLexModule(t *testing.T) {
	readsBoth(t, "import { x } from './b';\nexport function g(n: number): number { return n % 2; } // end",
		word("import", 0), sgn("{", 7), name("x", 9), sgn("}", 11), name("from", 13), text("./b", 18), sgn(";", 23),
		word("export", 25), word("function", 32), name("g", 41), sgn("(", 42), name("n", 43), sgn(":", 44), name("number", 46),
		sgn(")", 52), sgn(":", 53), name("number", 55), sgn("{", 62), word("return", 64), name("n", 71), sgn("%", 73),
		num(2, 75), sgn(";", 76), sgn("}", 78))
}

// 4.2: a source may be empty, or of blanks and notes alone.
func TestLexNothing(t *testing.T) {
	for _, s := range []string{"", " ", "\t\n\r ", "//", "// a", "// a\n", "/**/", "/* a */", "/* // */", "// /*", "// /*\n// */", "/***/", "/* * / */ // \xff\x00'\"", "/*\n*/\n/*\xff'*/", "//\r", "/*/*/", "/////", "//\n//", "/* /* */"} {
		readsBoth(t, s)
	}
}

// 4.2: just the bytes 9, 10, 13 and 32 are blanks.
func TestLexBlanks(t *testing.T) {
	for b := range 128 {
		s := "a " + string(rune(b)) + " b"
		if strings.ContainsRune("\t\n\r ", rune(b)) {
			readsBoth(t, s, name("a", 0), name("b", 4))
		}
		asTold(t, s)
	}
	for _, s := range []string{"\v", "\f", "\x00", "\x1c", "\x1f", "\x7f", "\u0085", "\u00a0", "\u2028", "\u3000", "\ufeff"} {
		refusesBoth(t, "a"+s+"b", 1, api.ErrSign)
	}
}

// 4.2: a note from // on goes up to the next byte 10, and no other sign ends it.
func TestLexLineNotes(t *testing.T) {
	readsBoth(t, "a// b\nc", name("a", 0), name("c", 6))
	readsBoth(t, "a// b\rc", name("a", 0))
	readsBoth(t, "a// b\r\nc", name("a", 0), name("c", 7))
	readsBoth(t, "a// b\u2028c\u0085d", name("a", 0))
	readsBoth(t, "// /*\na */ b", name("a", 6), sgn("*", 8), sgn("/", 9), name("b", 11))
	readsBoth(t, "//\na", name("a", 3))
	refusesBoth(t, "//'\n'", 4, api.ErrSign)
}

// 4.2: a note from /* on goes up to the next */, which has signs of its own.
func TestLexNotes(t *testing.T) {
	readsBoth(t, "a/* b */c", name("a", 0), name("c", 8))
	readsBoth(t, "a/**/b", name("a", 0), name("b", 5))
	readsBoth(t, "a/*\n//*/b", name("a", 0), name("b", 8))
	readsBoth(t, "a/* /* */b */", name("a", 0), name("b", 9), sgn("*", 11), sgn("/", 12))
	readsBoth(t, "/***/a", name("a", 5))
	readsBoth(t, "/*/ */a", name("a", 6))
	readsBoth(t, "1/**/a", num(1, 0), name("a", 5))
	readsBoth(t, "=/**/=", sgn("=", 0), sgn("=", 5))
	readsBoth(t, "a/ /b", name("a", 0), sgn("/", 1), sgn("/", 3), name("b", 4))
	readsBoth(t, "a/ *b", name("a", 0), sgn("/", 1), sgn("*", 3), name("b", 4))
}

// 4.2: a note that does not end is seen at its /, wherever the source ends.
func TestLexOpenNotes(t *testing.T) {
	for _, s := range []string{"/*", "/*/", "/* ", "/* *", "/**", "/*a*\n/", "/* // ", "/* * /", "/*\xff", "/* 'a' \"", "/* /*"} {
		refusesBoth(t, s, 0, api.ErrSign)
		refusesBoth(t, "ab "+s, 3, api.ErrSign)
		refusesBoth(t, "/**/"+s, 4, api.ErrSign)
	}
}

// 4.2: names of letters, digits and _; of letters past ASCII as well.
func TestLexNames(t *testing.T) {
	for _, s := range []string{"a", "Z", "_", "__", "_1", "a1", "aB_9", "ä", "aä1ö", "ÀÖØöøɏ", "ΑΡΣω", "Абя", "x0", "from", "as", "type", "of", "namespace", "number", "any"} {
		readsBoth(t, s, name(s, 0))
		readsBoth(t, " "+s+";", name(s, 1), sgn(";", 1+len(s)))
		readsBoth(t, s+"\n"+s, name(s, 0), name(s, len(s)+1))
	}
	readsBoth(t, "a.b", name("a", 0), sgn(".", 1), name("b", 2))
	readsBoth(t, "a-b", name("a", 0), sgn("-", 1), name("b", 2))
	readsBoth(t, "a'b'", name("a", 0), text("b", 1))
}

// 4.2: runes that are no letters neither begin a name nor go on with it.
func TestLexNoLetters(t *testing.T) {
	for _, s := range []string{"×", "÷", "¿", "ɐ", "ΐ", "\u03a2", "ϊ", "Џ", "ѐ", "ё", "€", "中", "\u0301", "٣", "²", "𝒳", "\ufffd", "\U0010ffff", "@", "#", "`", "^", "~", "\\", "\u2019"} {
		refusesBoth(t, s, 0, api.ErrSign)
		refusesBoth(t, "ab"+s, 2, api.ErrSign)
		refusesBoth(t, "ä"+s+"b", 2, api.ErrSign)
		refusesBoth(t, "1"+s, 1, api.ErrSign)
	}
}

// 4.2: a byte that belongs to no rune is no letter, also where it looks like a part of one.
func TestLexStrayBytes(t *testing.T) {
	for _, s := range []string{"\xff", "\xc3", "\xa4", "\x80", "\xc1\x81", "\xed\xa0\x80", "\xe2\x82", "\xf4\x90\x80\x80", "\xe0\x83\xa4"} {
		refusesBoth(t, s, 0, api.ErrSign)
		refusesBoth(t, "a"+s, 1, api.ErrSign)
		refusesBoth(t, "ä"+s, 2, api.ErrSign)
		refusesBoth(t, "a "+s+"b", 2, api.ErrSign)
		refusesBoth(t, "let"+s, 3, api.ErrSign)
		refusesBoth(t, "1"+s, 1, api.ErrSign)
		refusesBoth(t, "'"+s+"'", 0, api.ErrSign)
		readsBoth(t, "a//"+s+"\nb/*"+s+"*/", name("a", 0), name("b", 4+len(s)))
	}
}

// 4.2: a $ is of names in a script alone.
func TestLexDollar(t *testing.T) {
	for _, s := range []string{"$", "$1", "$$", "a$", "a$b", "x$1", "_$", "ä$2", "let$", "$if", "$ä_1"} {
		reads(t, s, true, name(s, 0))
		refuses(t, s, false, strings.Index(s, "$"), api.ErrSign)
	}
	reads(t, "$1 $", true, name("$1", 0), name("$", 3))
	refuses(t, "1$", false, 1, api.ErrSign)
	refuses(t, "1$", true, 0, api.ErrSign)
	readsBoth(t, "'$' // $\n/*$*/", text("$", 0))
}

// 4.2: each word is a word; what is longer, shorter or written otherwise is a name.
func TestLexWords(t *testing.T) {
	for _, w := range strings.Fields(allWords) {
		readsBoth(t, w, word(w, 0))
		readsBoth(t, " "+w+"(", word(w, 1), sgn("(", 1+len(w)))
		readsBoth(t, w+"/**/"+w, word(w, 0), word(w, len(w)+4))
		for _, s := range []string{w + "s", w + "1", w + "_", "_" + w, w + "ä", w + w, w[:len(w)-1], w[1:], strings.ToUpper(w), strings.ToUpper(w[:1]) + w[1:]} {
			readsBoth(t, s, name(s, 0))
		}
		reads(t, w+"$", true, name(w+"$", 0))
		refuses(t, w+"$", false, len(w), api.ErrSign)
	}
}

// 4.2: digits, as many as there are.
func TestLexNumbers(t *testing.T) {
	for _, n := range []int{0, 1, 5, 9, 10, 42, 100, 1234567890, 1<<31 - 1, 1 << 31, 1<<53 - 2, 1<<53 - 1} {
		s := strconv.Itoa(n)
		readsBoth(t, s, num(n, 0))
		readsBoth(t, "\n"+s+";", num(n, 1), sgn(";", 1+len(s)))
		readsBoth(t, "-"+s, sgn("-", 0), num(n, 1))
	}
	readsBoth(t, "1.5", num(1, 0), sgn(".", 1), num(5, 2))
	readsBoth(t, "1 2", num(1, 0), num(2, 2))
	readsBoth(t, "0.0", num(0, 0), sgn(".", 1), num(0, 2))
	readsBoth(t, "7'a'", num(7, 0), text("a", 1))
	readsBoth(t, "a7", name("a7", 0))
}

// 4.2: more than one digit with a 0 ahead, and a number with a name behind it, is no number.
func TestLexNoNumbers(t *testing.T) {
	for _, s := range []string{"00", "007", "01", "000", "0123456789", "1a", "0a", "0x1", "1e5", "1_000", "1_", "10ä", "1if", "1Я", "09a"} {
		refusesBoth(t, s, 0, api.ErrSign)
		refusesBoth(t, "a = "+s+";", 4, api.ErrSign)
	}
	for _, s := range []string{"1$", "0$", "12$a"} {
		refuses(t, s, true, 0, api.ErrSign)
		refuses(t, s, false, strings.Index(s, "$"), api.ErrSign)
	}
}

// 4.2: a number above MaxSafe is too great, however many digits it has; ErrSign is named ahead of that.
func TestLexGreatNumbers(t *testing.T) {
	for _, s := range []string{"9007199254740992", "9007199254740993", "10000000000000000", "9223372036854775807", "9223372036854775808", "18446744073709551615", "18446744073709551616", "18446744073709551617", "92233720368547758080", "340282366920938463463374607431768211457", strings.Repeat("9", 5000), "1" + strings.Repeat("0", 64)} {
		refusesBoth(t, s, 0, api.ErrNumber)
		refusesBoth(t, "a+"+s+"+1", 2, api.ErrNumber)
		refusesBoth(t, s+"\xc3", 0, api.ErrNumber)
		refusesBoth(t, "0"+s, 0, api.ErrSign)
		refusesBoth(t, s+"a", 0, api.ErrSign)
		refusesBoth(t, s+"ä", 0, api.ErrSign)
		refuses(t, s+"$", true, 0, api.ErrSign)
		refuses(t, s+"$", false, 0, api.ErrNumber)
	}
}

// 4.2: a text is what Unquote reads, with what it says; blanks and notes in it are its own.
func TestLexTexts(t *testing.T) {
	for _, x := range [][2]string{
		{`""`, ""},
		{`''`, ""},
		{`"a"`, "a"},
		{`'./b'`, "./b"},
		{`"it's"`, "it's"},
		{`'a "b"'`, `a "b"`},
		{`"a\"b"`, `a"b`},
		{`'\n\t\\\u{e4}\u{10ffff}'`, "\n\t\\ä\U0010ffff"},
		{`"// a"`, "// a"},
		{`'/* a'`, "/* a"},
		{"' \t '", " \t "},
		{`"let"`, "let"},
		{`"1a"`, "1a"},
		{`'$×€'`, "$×€"},
	} {
		readsBoth(t, x[0], text(x[1], 0))
		readsBoth(t, "a"+x[0]+"b", name("a", 0), text(x[1], 1), name("b", 1+len(x[0])))
		readsBoth(t, x[0]+x[0], text(x[1], 0), text(x[1], len(x[0])))
	}
}

// 4.2: where Unquote reads none, the quote is the sign that may not be.
func TestLexNoTexts(t *testing.T) {
	for _, s := range []string{`"`, `'`, `"a`, `'a"`, `"a'`, `'a\'`, `"\`, `"\q"`, `'\u{d800}'`, `'\u{110000}'`, `"\u{}"`, `"\u41"`, "'a\nb'", "'a\rb'", "\"\xff\""} {
		refusesBoth(t, s, 0, api.ErrSign)
		refusesBoth(t, "ä = "+s, 5, api.ErrSign)
		refusesBoth(t, "''"+s, 2, api.ErrSign)
	}
}

// 4.2: each sign is one, alone and with another one behind a blank.
func TestLexSigns(t *testing.T) {
	for _, s := range strings.Fields(allSigns) {
		readsBoth(t, s, sgn(s, 0))
		readsBoth(t, "a "+s+" 1", name("a", 0), sgn(s, 2), num(1, len(s)+3))
		for _, u := range strings.Fields(allSigns) {
			readsBoth(t, s+" "+u, sgn(s, 0), sgn(u, len(s)+1))
		}
	}
}

// 4.2: the longest sign that stands there.
func TestLexLongestSign(t *testing.T) {
	for _, s := range []string{
		"= =", "=== =", "=== = =", "=== ===", "= =>", "=== =>", "=> =", "! =", "!== =", "! !==", "<= =", "<= =>", ">= =", "< <=", "> >=", "< >", "=> >=",
		"|| |", "|| ||", "| !", "&& &&", "- -", "+ +", "* *", ". . .", "? .", "? ?", "- >", "< -", "( )", "[ ]", "{ }", ": :", "; ;", "! !", "% =", "+ =", "* =", "/ =", "> >= >",
	} {
		var want []api.Token
		at := 0
		for _, p := range strings.Fields(s) {
			want = append(want, sgn(p, at))
			at += len(p)
		}
		readsBoth(t, strings.ReplaceAll(s, " ", ""), want...)
	}
}

// 4.2: anything else is no sign, at its byte.
func TestLexAnythingElse(t *testing.T) {
	for _, s := range []string{"&", "@", "#", "\\", "^", "~", "`", "\x00", "\x7f", "\u00a0", "\ufeff"} {
		refusesBoth(t, s, 0, api.ErrSign)
		refusesBoth(t, "let a"+s, 5, api.ErrSign)
		refusesBoth(t, "ä "+s+" b", 3, api.ErrSign)
	}
	refusesBoth(t, "&&&", 2, api.ErrSign)
	refusesBoth(t, "& &", 0, api.ErrSign)
	refusesBoth(t, "a &= b", 2, api.ErrSign)
}

// 4.2: the first error of the source is told, whatever stands behind it.
func TestLexFirstError(t *testing.T) {
	refusesBoth(t, "a 9007199254740992 007 @", 2, api.ErrNumber)
	refusesBoth(t, "a 007 9007199254740992", 2, api.ErrSign)
	refusesBoth(t, "@ 9007199254740992", 0, api.ErrSign)
	refusesBoth(t, "9007199254740992 /*", 0, api.ErrNumber)
	refusesBoth(t, "// @\n'@' /*@*/ 00 '", 15, api.ErrSign)
	refuses(t, "a$ 00", true, 3, api.ErrSign)
	refuses(t, "a$ 00", false, 1, api.ErrSign)
}

// 4.2, 4.4: of all short texts of pieces that play into one another Lex answers what the patterns say.
func TestLexAllShort(t *testing.T) {
	for _, s := range slices.Concat(
		texts(6, "/", "*", "\n", "a", " "),
		texts(4, "=", "!", "<", ">", "&", "|", "-", "."),
		texts(4, "0", "1", "7", "a", "_", "$", ".", " "),
		texts(4, `"`, "'", `\`, "n", "\n", "u{e4}", "/*"),
		texts(4, "\xc3", "\xa4", "a", "ä", "×", "$", "1"),
		texts(3, "if", "in", "let", " ", "_", "1", "$", "/**/", "//", "\n"),
		texts(3, "900719925474099", "9007199254740991", "0", "1", "2", "a", "$", " "),
	) {
		asTold(t, s)
	}
}

// 4.2, 4.4: so it does of all pairs of bytes.
func TestLexAllPairs(t *testing.T) {
	for a := range 256 {
		for b := range 256 {
			asTold(t, string([]byte{byte(a), byte(b)}))
		}
	}
}

// 4.2, 4.4: and of all runes, as the beginning of a name and within one.
func TestLexAllRunes(t *testing.T) {
	for r := range rune(0x110000) {
		if 0x3000 < r && r < 0xFFF0 || 0x10100 < r && r%1021 != 0 || 0xD800 <= r && r <= 0xDFFF {
			continue
		}
		asTold(t, string(r))
		asTold(t, "a"+string(r)+"1")
		asTold(t, "1"+string(r))
	}
}

// R1: a source of very many bytes is gone through once.
func TestLexLong(t *testing.T) {
	const n = 1 << 20
	readsBoth(t, strings.Repeat(" ", n)+"a", name("a", n))
	readsBoth(t, strings.Repeat("//\n", n)+"a", name("a", 3*n))
	readsBoth(t, strings.Repeat("/**/", n)+"a", name("a", 4*n))
	readsBoth(t, "/*"+strings.Repeat("/ * ", n)+"*/a", name("a", 4*n+4))
	refusesBoth(t, strings.Repeat("/**/", n)+"/*", 4*n, api.ErrSign)
	refusesBoth(t, strings.Repeat("7", n), 0, api.ErrNumber)
	refusesBoth(t, strings.Repeat("0", n), 0, api.ErrSign)
	refusesBoth(t, "'"+strings.Repeat("a", n), 0, api.ErrSign)
	long := strings.Repeat("ä", n)
	readsBoth(t, long, name(long, 0))
	readsBoth(t, "'"+long+"'", text(long, 0))
	if l, at, err := Lex(strings.Repeat("a;", n), false); len(l) != 2*n || at != 0 || err != api.OK || l[2*n-1] != sgn(";", 2*n-1) {
		t.Errorf("Lex of %d names and signs: %d, %d, %d", n, len(l), at, err)
	}
}

// R4: a list that is answered is its caller's: what is done to it, its spare room too, shows in no other one.
func TestListsAreTheirCallers(t *testing.T) {
	l, m := Words(), Words()
	for i := range l[:cap(l)] {
		l[:cap(l)][i] = "?"
	}
	if want := strings.Fields(allWords); !slices.Equal(m, want) || !slices.Equal(Words(), want) {
		t.Errorf("Words(): %q, then %q", m, Words())
	}
	readsBoth(t, "class", word("class", 0))

	const s = "let a = 1; print('b');"
	a, _, _ := Lex(s, false)
	b, _, _ := Lex(s, false)
	want := slices.Clone(b)
	for i := range a[:cap(a)] {
		a[:cap(a)][i] = name("?", -1)
	}
	if !slices.Equal(b, want) {
		t.Errorf("Lex(%q): %v, want %v", s, b, want)
	}
	readsBoth(t, s, want...)
}

// shares tells whether two texts have a byte of memory in common.
func shares(a, b string) bool {
	at, bt := uintptr(unsafe.Pointer(unsafe.StringData(a))), uintptr(unsafe.Pointer(unsafe.StringData(b)))
	return at < bt+uintptr(len(b)) && bt < at+uintptr(len(a))
}

// R4: no text of an answer is a piece of what was handed in.
func TestTextsAreNew(t *testing.T) {
	s := strings.Clone("let abc = 'text' + \"\" === 17;")
	l, _, _ := Lex(s, true)
	for _, x := range l {
		if shares(x.Text, s) {
			t.Errorf("%v shares memory with its source", x)
		}
	}
	if s != "let abc = 'text' + \"\" === 17;" {
		t.Errorf("what was handed in was changed: %q", s)
	}
	long := strings.Clone("abc")
	if shares(Show([]api.Token{name(long, 0)}), long) {
		t.Error("what is shown shares memory with its token")
	}
}

package runes

import (
	"math"
	"strings"
	"testing"
	"unsafe"
)

// cut parts s as the chapter says it, from the bit patterns of UTF-8 alone: the
// pieces, and of each whether it is a rune.
func cut(s string) (pieces []string, whole []bool) {
	for s != "" {
		n := runeBytes(s)
		whole = append(whole, n > 0)
		n = max(n, 1)
		pieces = append(pieces, s[:n])
		s = s[n:]
	}
	return pieces, whole
}

// runeBytes tells how many bytes the rune has with which s begins; 0 of none.
func runeBytes(s string) int {
	b := int(s[0])
	n, number, least := 0, 0, 0
	switch {
	case b < 0x80:
		return 1
	case b>>5 == 6:
		n, number, least = 2, b&31, 0x80
	case b>>4 == 14:
		n, number, least = 3, b&15, 0x800
	case b>>3 == 30:
		n, number, least = 4, b&7, 0x10000
	default:
		return 0
	}
	if len(s) < n {
		return 0
	}
	for i := 1; i < n; i++ {
		if s[i]>>6 != 2 {
			return 0
		}
		number = number<<6 | int(s[i]&63)
	}
	if number < least || number > 0x10FFFF || 0xD800 <= number && number <= 0xDFFF {
		return 0
	}
	return n
}

// texts gives all texts of at most four bytes out of those at which UTF-8 turns.
func texts(yield func(string) bool) {
	const edges = "\x00A\x7f\x80\x8f\x90\x9f\xa0\xbd\xbf\xc1\xc2\xe0\xed\xef\xf0\xf4\xf5\xff"
	level := []string{""}
	for range 5 {
		var next []string
		for _, s := range level {
			if !yield(s) {
				return
			}
			if len(s) == 4 {
				continue
			}
			for i := range len(edges) {
				next = append(next, s+edges[i:i+1])
			}
		}
		level = next
	}
}

func TestValid(t *testing.T) { // 1.1
	good := []string{"", "a", "\x00", "\x7f", "\u0080", "aä€", "\u07ff", "\u0800", "\ud7ff", "\ue000", "\ufffd", "\uffff", "\U00010000", "\U0010ffff"}
	for _, s := range good {
		if !Valid(s) {
			t.Errorf("Valid(%q): false", s)
		}
	}
	bad := []string{
		"\x80", "\xbf", "\xff", "\xfe", "\xc3", "a\xe2\x82", "\xf0\x90\x80", // alone, or cut off
		"\xc0\x80", "\xc1\xbf", "\xe0\x9f\xbf", "\xf0\x8f\xbf\xbf", // not the shortest forms
		"\xed\xa0\x80", "\xed\xbf\xbf", // surrogates
		"\xf4\x90\x80\x80", "\xf5\x80\x80\x80", // above U+10FFFF
		"\ufffd\xff", "\xef\xbf", "\xef\xbfa", "ä\xa4", "\xc3\xc3\xa4",
	}
	for _, s := range bad {
		if Valid(s) {
			t.Errorf("Valid(%q): true", s)
		}
	}
}

func TestCount(t *testing.T) { // 1.1
	for s, want := range map[string]int{
		"": 0, "abc": 3, "aä€": 3, "\U0001f600": 1, "\ufffd": 1, "\x00": 1,
		"a\xff\xc3": 3, "\xe2\x82": 2, "\xe2\x82a": 3, "\xed\xa0\x80": 3, "\xf0€": 2, "\xef\xbf\xbd\xef\xbf": 3,
	} {
		if got := Count(s); got != want {
			t.Errorf("Count(%q): %d, want %d", s, got, want)
		}
	}
}

func TestAt(t *testing.T) { // 1.1
	for _, c := range []struct {
		s    string
		i    int
		want string
		ok   bool
	}{
		{"aä", 0, "a", true}, {"aä", 1, "ä", true}, {"aä", 2, "", false}, {"aä", 3, "", false},
		{"", 0, "", false}, {"a", -1, "", false}, {"a", math.MinInt, "", false}, {"a", math.MaxInt, "", false},
		{"\xe2\x82€", 1, "\x82", true}, {"\xe2\x82€", 2, "€", true}, {"\xe2\x82€", 3, "", false},
		{"\xff\ufffd", 0, "\xff", true}, {"\xff\ufffd", 1, "\ufffd", true}, {"\x00", 0, "\x00", true},
	} {
		if got, ok := At(c.s, c.i); got != c.want || ok != c.ok {
			t.Errorf("At(%q, %d): %q %v, want %q %v", c.s, c.i, got, ok, c.want, c.ok)
		}
	}
}

func TestSlice(t *testing.T) { // 1.1
	for _, c := range []struct {
		s        string
		from, to int
		want     string
	}{
		{"abc", 1, 9, "bc"}, {"abc", 0, 3, "abc"}, {"abc", 1, 2, "b"}, {"abc", -5, 1, "a"},
		{"abc", 2, 1, ""}, {"abc", 1, 1, ""}, {"abc", 3, 9, ""}, {"abc", 9, 12, ""},
		{"abc", -2, -1, ""}, {"abc", -2, 0, ""}, {"", 0, 1, ""},
		{"abc", math.MinInt, math.MaxInt, "abc"}, {"abc", math.MaxInt, math.MinInt, ""}, {"abc", math.MaxInt - 1, math.MaxInt, ""},
		{"aä€b", 1, 3, "ä€"}, {"ä\xff\xc3ä", 1, 3, "\xff\xc3"}, {"ä\xff\xc3ä", 2, 4, "\xc3ä"},
	} {
		if got := Slice(c.s, c.from, c.to); got != c.want {
			t.Errorf("Slice(%q, %d, %d): %q, want %q", c.s, c.from, c.to, got, c.want)
		}
	}
}

// TestPieces holds the calls of 1.1 against the bit patterns, and 1.5 with them.
func TestPieces(t *testing.T) {
	for s := range texts {
		pieces, whole := cut(s)
		valid := true
		for i, p := range pieces {
			valid = valid && whole[i]
			if got, ok := At(s, i); got != p || !ok {
				t.Fatalf("At(%q, %d): %q %v, want %q", s, i, got, ok, p)
			}
		}
		if got, ok := At(s, len(pieces)); got != "" || ok {
			t.Fatalf("At(%q, %d): %q %v", s, len(pieces), got, ok)
		}
		if Valid(s) != valid || Count(s) != len(pieces) {
			t.Fatalf("%q: Valid %v, Count %d, want %v, %d", s, Valid(s), Count(s), valid, len(pieces))
		}
		for from := range len(pieces) + 1 {
			for to := range len(pieces) + 1 {
				want := strings.Join(pieces[from:max(from, to)], "")
				if got := Slice(s, from, to); got != want {
					t.Fatalf("Slice(%q, %d, %d): %q, want %q", s, from, to, got, want)
				}
			}
		}
	}
}

func TestSliceIsWhole(t *testing.T) { // 1.5
	for _, s := range []string{"", "aä€", "\xff\xfe", "a\xe2\x82b", "\U0001f600\ufffd"} {
		all := ""
		for i := range Count(s) {
			one, _ := At(s, i)
			all += one
		}
		if all != s {
			t.Errorf("all that At tells of %q: %q", s, all)
		}
		for k := -2; k < Count(s)+3; k++ {
			if got := Slice(s, 0, k) + Slice(s, k, Count(s)); got != s {
				t.Errorf("%q cut at %d: %q", s, k, got)
			}
		}
	}
}

func TestNewMemory(t *testing.T) { // R4
	s := strings.Repeat("aä", 9)
	one, _ := At(s, 0)
	for _, got := range []string{one, Slice(s, 0, 9), Slice(s, 0, 18)} {
		if unsafe.StringData(got) == unsafe.StringData(s) {
			t.Errorf("%q shares memory with what was handed in", got)
		}
	}
}

func TestLetter(t *testing.T) { // 1.2
	spans := [][2]rune{{'a', 'z'}, {'A', 'Z'}, {0xC0, 0xD6}, {0xD8, 0xF6}, {0xF8, 0x24F}, {0x391, 0x3A1}, {0x3A3, 0x3C9}, {0x410, 0x44F}}
	letters := map[rune]int{}
	for _, p := range spans {
		for r := p[0]; r <= p[1]; r++ {
			letters[r] = 1
		}
	}
	for r := rune(-300); r <= 0x110100; r++ {
		if Letter(r) != (letters[r] == 1) {
			t.Errorf("Letter(%#x): %v", r, Letter(r))
		}
	}
	if Letter(math.MinInt32) || Letter(math.MaxInt32) {
		t.Error("Letter of what is no rune")
	}
}

func TestDigit(t *testing.T) { // 1.2
	for r := rune(-300); r <= 0x110100; r++ {
		if Digit(r) != strings.ContainsRune("0123456789", r) {
			t.Errorf("Digit(%#x): %v", r, Digit(r))
		}
	}
}

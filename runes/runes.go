// Package runes is layer 1: texts as runes, letters, and texts in quotes
// (see shared/doc/01-runes.md).
package runes

import (
	"strings"
	"unicode/utf8"
)

// Valid tells whether s is runes.
func Valid(s string) bool {
	for at, r := range s {
		if stray(s, at, r) {
			return false
		}
	}
	return true
}

// Count tells how many runes s has; a byte that belongs to none counts as one.
func Count(s string) int {
	n := 0
	for range s {
		n++
	}
	return n
}

// At gives the i-th of what Count counts.
func At(s string, i int) (string, bool) {
	// No text has more runes than bytes, and below len(s) there is room for i+1.
	if i < 0 || i >= len(s) {
		return "", false
	}
	one := Slice(s, i, i+1)
	return one, one != ""
}

// Slice gives those of what Count counts that stand from the place from up to
// the one ahead of to.
func Slice(s string, from, to int) string {
	from = max(from, 0)
	if to <= from {
		return ""
	}
	begin, end, n := len(s), len(s), 0
	for at := range s {
		if n == from {
			begin = at
		}
		if n == to {
			end = at
			break
		}
		n++
	}
	return strings.Clone(s[begin:end]) // an answer shares no memory with what was handed in
}

// Letter tells whether r is a letter of the language.
func Letter(r rune) bool {
	switch {
	case 'a' <= r && r <= 'z', 'A' <= r && r <= 'Z':
		return true
	case 0xC0 <= r && r <= 0x24F:
		return r != 0xD7 && r != 0xF7
	case 0x391 <= r && r <= 0x3C9:
		return r != 0x3A2
	}
	return 0x410 <= r && r <= 0x44F
}

// Digit tells whether r is a digit.
func Digit(r rune) bool {
	return '0' <= r && r <= '9'
}

// stray tells whether r, which a range over s gave at the byte at, stands for a
// byte that belongs to no rune. A range gives U+FFFD for such a byte, but also
// where that rune itself is written, in its three bytes.
func stray(s string, at int, r rune) bool {
	return r == utf8.RuneError && !strings.HasPrefix(s[at:], "\uFFFD")
}

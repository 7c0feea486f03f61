package runes

import (
	"strconv"
	"strings"
	"unicode/utf8"

	"gusset/api"
)

// maxDigits is how many digits the number of a rune has at most in quotes.
const maxDigits = 6

// Where an unquoter stands.
const (
	ahead    = iota // of the first quote
	inside          // between the quotes
	escaped         // behind a \
	numbered        // behind \u
	counting        // behind \u{ and its digits so far
	behind          // behind the last quote
)

// An unquoter reads a text in quotes rune by rune.
type unquoter struct {
	state  int
	quote  rune
	said   []byte
	number rune
	digits int
}

// Quote gives s in quotes.
func Quote(s string) string {
	var b strings.Builder
	b.WriteByte('"')
	for at, r := range s {
		switch {
		case stray(s, at, r):
			b.WriteString(byNumber(rune(s[at])))
		case r == '"' || r == '\\':
			b.WriteByte('\\')
			b.WriteRune(r)
		case r == '\n':
			b.WriteString(`\n`)
		case r == '\t':
			b.WriteString(`\t`)
		case r < 32 || r == 127:
			b.WriteString(byNumber(r))
		default:
			b.WriteRune(r)
		}
	}
	b.WriteByte('"')
	return b.String()
}

func byNumber(r rune) string {
	return `\u{` + strconv.FormatInt(int64(r), 16) + `}`
}

// Unquote gives what the text in quotes says with which s begins, and how many
// bytes it has there.
func Unquote(s string) (string, int, api.Errno) {
	var u unquoter
	for at, r := range s {
		if stray(s, at, r) || !u.take(r) {
			return "", 0, api.ErrText
		}
		if u.state == behind {
			return string(u.said), at + 1, api.OK // a quote has one byte
		}
	}
	return "", 0, api.ErrText
}

// take tells whether r may stand next, and goes on behind it.
func (u *unquoter) take(r rune) bool {
	switch u.state {
	case ahead:
		return u.takeFirst(r)
	case inside:
		return u.takeInside(r)
	case escaped:
		return u.takeEscaped(r)
	case numbered:
		u.state, u.number, u.digits = counting, 0, 0
		return r == '{'
	case counting:
		return u.takeCounting(r)
	}
	return false
}

func (u *unquoter) takeFirst(r rune) bool {
	u.state, u.quote = inside, r
	return r == '"' || r == '\''
}

func (u *unquoter) takeInside(r rune) bool {
	switch r {
	case '\n', '\r':
		return false
	case u.quote:
		u.state = behind
	case '\\':
		u.state = escaped
	default:
		u.say(r)
	}
	return true
}

func (u *unquoter) takeEscaped(r rune) bool {
	switch r {
	case 'n':
		u.say('\n')
	case 't':
		u.say('\t')
	case '"', '\'', '\\':
		u.say(r)
	case 'u':
		u.state = numbered
	default:
		return false
	}
	return true
}

func (u *unquoter) takeCounting(r rune) bool {
	if r == '}' {
		if u.digits == 0 || !utf8.ValidRune(u.number) {
			return false
		}
		u.say(u.number)
		return true
	}
	d, ok := hexDigit(r)
	if !ok || u.digits == maxDigits {
		return false
	}
	u.number = u.number*16 + d
	u.digits++
	return true
}

// say adds r to what the text says; whatever stood for it has been read.
func (u *unquoter) say(r rune) {
	u.said = utf8.AppendRune(u.said, r)
	u.state = inside
}

func hexDigit(r rune) (rune, bool) {
	switch {
	case Digit(r):
		return r - '0', true
	case 'a' <= r && r <= 'f':
		return r - 'a' + 10, true
	case 'A' <= r && r <= 'F':
		return r - 'A' + 10, true
	}
	return 0, false
}

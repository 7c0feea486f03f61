// Package cursor goes over tokens for the layers that read trees out of them (6 and 7), and has what their grammars share.
package cursor

import (
	"strings"

	"gusset/api"
)

// A Cursor is at one of its tokens, or behind the last one. A reader of trees embeds it: each rule is a method that begins at the token here, and leaves the reader at the one behind.
type Cursor struct {
	tokens []api.Token
	at     int
}

// A Fault is what a rule that cannot go on panics with.
type Fault struct {
	At  int
	Err api.Errno
}

// New is a cursor at that token; at is 0 to the number of tokens.
func New(l []api.Token, at int) Cursor {
	return Cursor{l, at}
}

// Place is the number of the token here.
func (c *Cursor) Place() int {
	return c.at
}

// Rest are the tokens from here on. They are the caller's: to be read alone.
func (c *Cursor) Rest() []api.Token {
	return c.tokens[c.at:]
}

// Ahead is the token so many behind the one here; behind the last one a TokenEnd, which no rule lets stand.
func (c *Cursor) Ahead(n int) api.Token {
	if rest := c.Rest(); n < len(rest) {
		return rest[n]
	}
	return api.Token{}
}

// Token is the token here.
func (c *Cursor) Token() api.Token {
	return c.Ahead(0)
}

// Wrong is the fault that no rule lets the token here stand.
func (c *Cursor) Wrong() Fault {
	return Fault{c.at, api.ErrSyntax}
}

// Go goes to that token.
func (c *Cursor) Go(at int) {
	c.at = at
}

// Pass goes behind the token here and tells its text, in memory of its own.
func (c *Cursor) Pass() string {
	s := c.tokens[c.at].Text
	c.at++
	return strings.Clone(s)
}

// IsSign tells whether a token is that sign.
func IsSign(t api.Token, sign string) bool {
	return t.Kind == api.TokenSign && t.Text == sign
}

// IsWord tells whether a token is that word.
func IsWord(t api.Token, word string) bool {
	return t.Kind == api.TokenWord && t.Text == word
}

// IsName tells whether a token is that name.
func IsName(t api.Token, name string) bool {
	return t.Kind == api.TokenName && t.Text == name
}

// Stands tells whether that sign is here.
func (c *Cursor) Stands(sign string) bool {
	return IsSign(c.Token(), sign)
}

// StandsWord tells whether that word is here.
func (c *Cursor) StandsWord(word string) bool {
	return IsWord(c.Token(), word)
}

// StandsId tells whether an Id is here.
func (c *Cursor) StandsId() bool {
	return c.Token().Kind == api.TokenName
}

// passIf goes behind the token here, if it is so.
func (c *Cursor) passIf(so bool) bool {
	if so {
		c.at++
	}
	return so
}

// Take goes behind that sign, if it is here.
func (c *Cursor) Take(sign string) bool {
	return c.passIf(c.Stands(sign))
}

// TakeWord goes behind that word, if it is here.
func (c *Cursor) TakeWord(word string) bool {
	return c.passIf(c.StandsWord(word))
}

// TakeName goes behind that name, if it is here.
func (c *Cursor) TakeName(name string) bool {
	return c.passIf(IsName(c.Token(), name))
}

// Want goes behind that sign, which must be here.
func (c *Cursor) Want(sign string) {
	if !c.Take(sign) {
		panic(c.Wrong())
	}
}

// Id goes behind an Id, which must be here, and tells it.
func (c *Cursor) Id() string {
	if !c.StandsId() {
		panic(c.Wrong())
	}
	return c.Pass()
}

// Prop goes behind a prop, which must be here, and tells it.
func (c *Cursor) Prop() string {
	if !c.StandsId() && c.Token().Kind != api.TokenWord {
		panic(c.Wrong())
	}
	return c.Pass()
}

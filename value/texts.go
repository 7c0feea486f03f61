package value

import "strings"

// texts are the names and texts of a heap, in memory of its own, each once: a long text that a run lays down a million times takes the room of one.
type texts map[string]*counted

// counted is a text, and at how many places it stands.
type counted struct {
	text   string
	places int
}

// keep is a text's one copy, which stands at one more place now.
func (t texts) keep(text string) string {
	c := t[text]
	if c == nil {
		c = &counted{text: strings.Clone(text)}
		t[c.text] = c
	}
	c.places++
	return c.text
}

// drop tells that a text stands at one place less; of one that was not kept, as the empty one is not, it does nothing.
func (t texts) drop(text string) {
	c := t[text]
	if c == nil {
		return
	}
	c.places--
	if c.places == 0 {
		delete(t, text)
	}
}

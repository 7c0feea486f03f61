package show

import (
	"strings"

	"gusset/api"
)

// A piece is something that is printed.
type piece interface {
	// begin is the first text that is printed of it; "", if there is none.
	begin() string
}

// said is a text that is printed as it is.
type said string

// A row is pieces that stand one behind the other.
type row []piece

// inside is what stands between a { and a }, each thing on lines of its own.
type inside []piece

func (s said) begin() string {
	return string(s)
}

func (r row) begin() string {
	for _, p := range r {
		if s := p.begin(); s != "" {
			return s
		}
	}
	return ""
}

func (inside) begin() string {
	return "{"
}

// A printer prints pieces.
type printer struct {
	out    strings.Builder
	blanks int // with which the line here begins
}

func printed(p piece) string {
	var to printer
	to.print(p)
	return to.out.String()
}

func (to *printer) print(p piece) {
	switch p := p.(type) {
	case said:
		to.out.WriteString(string(p))
	case row:
		for _, part := range p {
			to.print(part)
		}
	case inside:
		to.printInside(p)
	}
}

func (to *printer) printInside(things inside) {
	to.out.WriteByte('{')
	if len(things) > 0 {
		to.blanks += 2
		for _, thing := range things {
			to.line()
			to.print(thing)
		}
		to.blanks -= 2
		to.line()
	}
	to.out.WriteByte('}')
}

// line begins a line.
func (to *printer) line() {
	to.out.WriteByte('\n')
	to.out.WriteString(strings.Repeat(" ", to.blanks))
}

// each is what is shown of each tree.
func each(l []api.Node, of func(api.Node) piece) []piece {
	pieces := make([]piece, len(l))
	for i, n := range l {
		pieces[i] = of(n)
	}
	return pieces
}

// list is what is shown of each tree, with that text between any two.
func list(l []api.Node, between said, of func(api.Node) piece) row {
	var r row
	for i, p := range each(l, of) {
		if i > 0 {
			r = append(r, between)
		}
		r = append(r, p)
	}
	return r
}

func brackets(p piece) piece {
	return row{said("("), p, said(")")}
}

// braces are { and } on one line, with blanks inside them if anything stands there.
func braces(r row) piece {
	if len(r) == 0 {
		return said("{}")
	}
	return row{said("{ "), r, said(" }")}
}

package flow

import (
	"fmt"
	"strconv"
	"strings"
	"testing"

	"gusset/api"
	"gusset/lex"
	"gusset/parse"
	"gusset/types"
)

// expr reads an expression as a script's source has it.
func expr(text string) api.Node {
	l, _, err := lex.Lex(text, true)
	n, end, err2 := parse.Expr(l, 0)
	if err != api.OK || err2 != api.OK || end != len(l) {
		panic("no expression: " + text)
	}
	return n
}

// typ reads a type as a source has it; besides, inst0, class0, space0 are those of that number.
func typ(text string) api.Type {
	l, _, err := lex.Lex(text, false)
	n, end, err2 := parse.Type(l, 0)
	if err != api.OK || err2 != api.OK || end != len(l) {
		panic("no type: " + text)
	}
	return typeOf(n)
}

func typeOf(n api.Node) api.Type {
	switch n.Kind {
	case api.TypeName:
		return named(n.Text)
	case api.TypeArray:
		return list(typeOf(n.Kids[0]))
	case api.TypeUnion:
		var l []api.Type
		for _, kid := range n.Kids {
			l = append(l, typeOf(kid))
		}
		return must(types.Union(l...))
	case api.TypeObject:
		var slots []api.Slot
		for _, kid := range n.Kids {
			slots = append(slots, api.Slot{Name: kid.Text, Type: typeOf(kid.Kids[0])})
		}
		return must(types.Record(slots))
	case api.TypeFunc:
		var l []api.Type
		for _, param := range n.Kids[0].Kids {
			l = append(l, typeOf(param.Kids[0]))
		}
		return fn(append(l, typeOf(n.Kids[1]))...)
	}
	panic(n.Kind)
}

func named(text string) api.Type {
	for i, word := range []string{"any", "number", "string", "boolean", "null", "undefined"} {
		if text == word {
			return one(api.TypeAny + i)
		}
	}
	for i, word := range []string{"inst", "class", "space"} {
		if number, ok := strings.CutPrefix(text, word); ok {
			if n, err := strconv.Atoi(number); err == nil {
				return numbered(api.TypeInst+i, n)
			}
		}
	}
	panic("no type: " + text)
}

func must(t api.Type, err api.Errno) api.Type {
	if err != api.OK {
		panic(err)
	}
	return t
}

func one(kind int) api.Type           { return api.Type{Kind: kind} }
func numbered(kind, n int) api.Type   { return api.Type{Kind: kind, N: n} }
func list(t api.Type) api.Type        { return api.Type{Kind: api.TypeList, List: []api.Type{t}} }
func fn(l ...api.Type) api.Type       { return api.Type{Kind: api.TypeFn, List: l} }
func eitherOf(l ...api.Type) api.Type { return api.Type{Kind: api.TypeEither, List: l} }

func node(kind int, text string, kids ...api.Node) api.Node {
	return api.Node{Kind: kind, Text: text, Kids: kids}
}

// fact reads a fact of no name: typeof and a text, is and a text, or true; with not ahead, if it is not so.
func fact(text string) api.Fact {
	text, not := strings.CutPrefix(text, "not ")
	word, said, _ := strings.Cut(text, " ")
	return api.Fact{Kind: map[string]int{"typeof": api.FactTypeof, "is": api.FactIs, "true": api.FactTrue}[word], Text: said, Not: not}
}

// brief are facts as fact reads them, each behind its name and a colon.
func brief(facts []api.Fact) string {
	var texts []string
	for _, f := range facts {
		s := f.Name + ": "
		if f.Not {
			s += "not "
		}
		switch f.Kind {
		case api.FactTypeof:
			s += "typeof " + f.Text
		case api.FactIs:
			s += "is " + f.Text
		case api.FactTrue:
			s += "true" + f.Text
		default:
			s += fmt.Sprint(f.Kind, " ", f.Text)
		}
		texts = append(texts, s)
	}
	return strings.Join(texts, ", ")
}

// told tells a type in full, so that two are told alike just if they are the same; a list that is empty may be nil.
func told(t api.Type) string {
	return string(appendTold(nil, t))
}

func appendTold(s []byte, t api.Type) []byte {
	s = fmt.Appendf(s, "%d/%d%q[", t.Kind, t.N, t.Names)
	for _, part := range t.List {
		s = append(appendTold(s, part), ' ')
	}
	return append(s, ']')
}

// shown is a type's text, or if it may not be, what it has; as much as a line has room for.
func shown(t api.Type) string {
	s := types.Show(t)
	if s == "?" {
		s = told(t)
	}
	return s[:min(len(s), 500)]
}

func isZero(t api.Type) bool {
	return t.Kind == 0 && t.N == 0 && t.Names == nil && t.List == nil
}

// says holds the facts of a condition that is true, and of one that is not.
func says(t *testing.T, n api.Node, ifTrue, ifNot string) {
	t.Helper()
	if got := brief(Facts(n, true)); got != ifTrue {
		t.Errorf("%.500v, if it is true: %.500q, want %.500q", n, got, ifTrue)
	}
	if got := brief(Facts(n, false)); got != ifNot {
		t.Errorf("%.500v, if it is not: %.500q, want %.500q", n, got, ifNot)
	}
}

// leaves holds what a fact leaves of a type.
func leaves(t *testing.T, x api.Type, f api.Fact, want api.Type) {
	t.Helper()
	if got := Narrow(x, f); told(got) != told(want) {
		t.Errorf("Narrow(%s, %s): %s, want %s", shown(x), brief([]api.Fact{f}), shown(got), shown(want))
	}
}

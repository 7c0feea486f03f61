package types

import (
	"strconv"
	"strings"

	"gusset/api"
)

// A writer writes types that may be.
type writer struct {
	out strings.Builder
}

func (w *writer) write(t api.Type) {
	switch t.Kind {
	case api.TypeList:
		element := t.List[0]
		w.writeWithin(element, element.Kind == api.TypeEither || element.Kind == api.TypeFn)
		w.say("[]")
	case api.TypeRecord:
		w.writeRecord(t)
	case api.TypeFn:
		w.writeFn(t)
	case api.TypeEither:
		for i, part := range t.List {
			w.sayBetween(i, " | ")
			w.writeWithin(part, part.Kind == api.TypeFn)
		}
	case api.TypeInst, api.TypeClass, api.TypeSpace:
		w.say(word(t.Kind))
		w.say("#")
		w.say(strconv.Itoa(t.N))
	default:
		w.say(word(t.Kind))
	}
}

// writeWithin writes a type that stands within another one, in brackets if it must.
func (w *writer) writeWithin(t api.Type, brackets bool) {
	if !brackets {
		w.write(t)
		return
	}
	w.say("(")
	w.write(t)
	w.say(")")
}

func (w *writer) writeRecord(t api.Type) {
	if len(t.List) == 0 {
		w.say("{}")
		return
	}
	w.say("{ ")
	for i, part := range t.List {
		w.say(t.Names[i])
		w.say(": ")
		w.write(part)
		w.say("; ")
	}
	w.say("}")
}

func (w *writer) writeFn(t api.Type) {
	last := len(t.List) - 1
	w.say("(")
	for i, param := range t.List[:last] {
		w.sayBetween(i, ", ")
		w.write(param)
	}
	w.say(") => ")
	w.write(t.List[last])
}

// sayBetween says what stands between two, ahead of the one with that number.
func (w *writer) sayBetween(i int, s string) {
	if i > 0 {
		w.say(s)
	}
}

func (w *writer) say(s string) {
	w.out.WriteString(s)
}

// word is the one by which a kind without parts is told.
func word(kind int) string {
	switch kind {
	case api.TypeAny:
		return "any"
	case api.TypeNumber:
		return "number"
	case api.TypeString:
		return "string"
	case api.TypeBoolean:
		return "boolean"
	case api.TypeNull:
		return "null"
	case api.TypeUndef:
		return "undefined"
	case api.TypeInst:
		return "inst"
	case api.TypeClass:
		return "class"
	}
	return "space"
}

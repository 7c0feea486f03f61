package sub

import (
	"fmt"
	"strconv"
	"strings"

	"gusset/api"
	"gusset/lex"
	"gusset/parse"
	"gusset/types"
)

// typ reads a type as a source has it; besides, inst0, class0, space0 are those of that number.
func typ(text string) api.Type {
	l, _, err := lex.Lex(text, false)
	n, end, err2 := parse.Type(l, 0)
	if err != api.OK || err2 != api.OK || end != len(l) {
		panic("no type: " + text)
	}
	return typeOf(n)
}

func typeOf(n api.Node) api.Type {
	switch n.Kind {
	case api.TypeName:
		return named(n.Text)
	case api.TypeArray:
		return list(typeOf(n.Kids[0]))
	case api.TypeUnion:
		return must(types.Union(typesOf(n.Kids)...))
	case api.TypeObject:
		var slots []api.Slot
		for _, kid := range n.Kids {
			slots = append(slots, slot(kid.Text, typeOf(kid.Kids[0])))
		}
		return must(types.Record(slots))
	case api.TypeFunc:
		var l []api.Type
		for _, param := range n.Kids[0].Kids {
			l = append(l, typeOf(param.Kids[0]))
		}
		return fn(append(l, typeOf(n.Kids[1]))...)
	}
	panic(n.Kind)
}

func typesOf(l []api.Node) []api.Type {
	var all []api.Type
	for _, n := range l {
		all = append(all, typeOf(n))
	}
	return all
}

func named(text string) api.Type {
	for i, word := range []string{"any", "number", "string", "boolean", "null", "undefined"} {
		if text == word {
			return one(api.TypeAny + i)
		}
	}
	for i, word := range []string{"inst", "class", "space"} {
		if number, ok := strings.CutPrefix(text, word); ok {
			n, err := strconv.Atoi(number)
			if err == nil {
				return numbered(api.TypeInst+i, n)
			}
		}
	}
	panic("no type: " + text)
}

func must(t api.Type, err api.Errno) api.Type {
	if err != api.OK {
		panic(err)
	}
	return t
}

// classesOf are classes whose members stand in texts as a record's do.
func classesOf(bodies ...string) []api.ClassInfo {
	var classes []api.ClassInfo
	for i, body := range bodies {
		t := typ("{" + body + "}")
		info := api.ClassInfo{Mod: i, Name: "C" + strconv.Itoa(i)}
		for at, name := range t.Names {
			info.Members = append(info.Members, slot(name, t.List[at]))
		}
		classes = append(classes, info)
	}
	return classes
}

func one(kind int) api.Type                   { return api.Type{Kind: kind} }
func numbered(kind, n int) api.Type           { return api.Type{Kind: kind, N: n} }
func list(t api.Type) api.Type                { return api.Type{Kind: api.TypeList, List: []api.Type{t}} }
func fn(l ...api.Type) api.Type               { return api.Type{Kind: api.TypeFn, List: l} }
func eitherOf(l ...api.Type) api.Type         { return api.Type{Kind: api.TypeEither, List: l} }
func slot(name string, t api.Type) api.Slot   { return api.Slot{Name: name, Type: t} }
func record(name string, t api.Type) api.Type { return must(types.Record([]api.Slot{slot(name, t)})) }
func members(l ...api.Slot) []api.ClassInfo   { return []api.ClassInfo{{Members: l}} }

// told tells a type in full, so that two are told alike just if they are the same; a list that is empty may be nil.
func told(t api.Type) string {
	return string(appendTold(nil, t))
}

func appendTold(s []byte, t api.Type) []byte {
	s = fmt.Appendf(s, "%d/%d%q[", t.Kind, t.N, t.Names)
	for _, part := range t.List {
		s = append(appendTold(s, part), ' ')
	}
	return append(s, ']')
}

// brief is a type's text, or if it may not be, what it has; as much as a line has room for.
func brief(t api.Type) string {
	s := types.Show(t)
	if s == "?" {
		s = told(t)
	}
	return s[:min(len(s), 500)]
}

// sized is a type of that size, with more than one in its list.
func sized(kind, size int) api.Type {
	t := one(kind)
	for i := range size - 1 {
		t.List = append(t.List, numbered(api.TypeInst, i))
		if kind == api.TypeRecord {
			t.Names = append(t.Names, "n"+strconv.Itoa(1000+i))
		}
	}
	return t
}

package types

import (
	"strconv"
	"strings"
	"testing"

	"gusset/api"
	"gusset/show"
)

// A reader reads the text of a type back; it panics where no type stands.
type reader struct{ left string }

func (r *reader) take(s string) bool {
	rest, ok := strings.CutPrefix(r.left, s)
	if ok {
		r.left = rest
	}
	return ok
}

func (r *reader) must(s string) {
	if !r.take(s) {
		panic("no " + s + " ahead of " + r.left)
	}
}

// until takes all ahead of a text, and that.
func (r *reader) until(s string) string {
	taken, rest, ok := strings.Cut(r.left, s)
	if !ok {
		panic("no " + s + " in " + r.left)
	}
	r.left = rest
	return taken
}

// readType reads as much as there is: what ends a type is none of its signs.
func (r *reader) readType() api.Type {
	l := []api.Type{r.readPart()}
	for r.take(" | ") {
		l = append(l, r.readPart())
	}
	if len(l) == 1 {
		return l[0]
	}
	return eitherOf(l...)
}

func (r *reader) readPart() api.Type {
	t := r.readOne()
	for r.take("[]") {
		t = list(t)
	}
	return t
}

// readOne has the brackets of a function and those around a type apart by the arrow behind.
func (r *reader) readOne() api.Type {
	switch {
	case r.take("("):
		return r.readBrackets()
	case r.take("{}"):
		return record("")
	case r.take("{ "):
		t := one(api.TypeRecord)
		for !r.take("}") {
			t.Names = append(t.Names, r.until(": "))
			t.List = append(t.List, r.readType())
			r.must("; ")
		}
		return t
	}
	for kind, s := range map[int]string{1: "any", 2: "number", 3: "string", 4: "boolean", 5: "null", 6: "undefined"} {
		if r.take(s) {
			return one(kind)
		}
	}
	for kind, s := range map[int]string{11: "inst#", 12: "class#", 13: "space#"} {
		if r.take(s) {
			digits := len(r.left) - len(strings.TrimLeft(r.left, "0123456789"))
			n, err := strconv.Atoi(r.left[:digits])
			if err != nil {
				panic(err)
			}
			r.left = r.left[digits:]
			return numbered(kind, n)
		}
	}
	panic("no type in " + r.left)
}

func (r *reader) readBrackets() api.Type {
	var l []api.Type
	for !r.take(")") {
		if len(l) > 0 {
			r.must(", ")
		}
		l = append(l, r.readType())
	}
	if r.take(" => ") {
		return fn(append(l, r.readType())...)
	}
	if len(l) != 1 {
		panic("brackets around nothing, or around several")
	}
	return l[0]
}

func readBack(s string) api.Type {
	r := &reader{s}
	t := r.readType()
	if r.left != "" {
		panic("behind it stands " + r.left)
	}
	return t
}

// 14.5, 14.6: a text is read as just the type that it is of, so that no two have one.
func TestShowReadBack(t *testing.T) {
	texts := map[string]string{}
	for seed := range int64(40000) {
		c := by(seed)
		x := c.may(2 + int(seed%4))
		s := Show(x)
		if got := told(readBack(s)); got != told(x) {
			t.Fatalf("%s of %s is read as %s", s, told(x), got)
		}
		if other, has := texts[s]; has && other != told(x) {
			t.Fatalf("%s: %s and %s", s, told(x), other)
		}
		texts[s] = told(x)
	}
	if len(texts) < 15000 {
		t.Error(len(texts), "texts")
	}
}

// asTree is the tree that layer 8 shows as the type is shown: where no function has parameters, as those have names there; and no class or module has a number.
func asTree(t api.Type) (api.Node, bool) {
	kinds := map[int]int{api.TypeList: api.TypeArray, api.TypeRecord: api.TypeObject, api.TypeEither: api.TypeUnion, api.TypeFn: api.TypeFunc}
	n := api.Node{Kind: kinds[t.Kind]}
	if t.Kind <= api.TypeUndef {
		return api.Node{Kind: api.TypeName, Text: strings.Fields("- any number string boolean null undefined")[t.Kind]}, true
	}
	if n.Kind == 0 || n.Kind == api.TypeFunc && len(t.List) > 1 {
		return n, false
	}
	if n.Kind == api.TypeFunc {
		n.Kids = append(n.Kids, api.Node{Kind: api.Params})
	}
	for i, part := range t.List {
		kid, ok := asTree(part)
		if !ok {
			return n, false
		}
		if n.Kind == api.TypeObject {
			kid = api.Node{Kind: api.TypeProp, Text: t.Names[i], Kids: []api.Node{kid}}
		}
		n.Kids = append(n.Kids, kid)
	}
	return n, true
}

// 14.5: records, lists and unions are shown as chapter 8 has their trees.
func TestShowAsTrees(t *testing.T) {
	held := 0
	for seed := range int64(40000) {
		c := by(seed)
		x := c.may(2 + int(seed%3))
		n, ok := asTree(x)
		if !ok {
			continue
		}
		held++
		if got, want := Show(x), show.Show(n); got != want || want == "" {
			t.Fatalf("%s: %q, want %q", told(x), got, want)
		}
	}
	if held < 5000 {
		t.Error(held, "were held against trees")
	}
}

package flow

import (
	"math"
	"math/rand"
	"slices"
	"testing"

	"gusset/api"
	"gusset/show"
	"gusset/sub"
	"gusset/tree"
	"gusset/types"
)

// Here stand conditions and types that are made by chance, together with what the chapter says of them.
type chance struct{ *rand.Rand }

func by(seed int64) chance {
	return chance{rand.New(rand.NewSource(seed))}
}

func (c chance) one(l ...string) string { return l[c.Intn(len(l))] }

func (c chance) name() string { return c.one("x", "y", "z", "a$1", "ä") }

func (c chance) typeofText() string {
	return c.one("number", "string", "boolean", "undefined", "object", "function", "null", "", "x")
}

// A made condition has the facts that hold if it is true, and if it is not.
type made struct {
	tree          api.Node
	ifTrue, ifNot []api.Fact
}

// opposite are facts each of which says the opposite.
func opposite(l []api.Fact) []api.Fact {
	l = slices.Clone(l)
	for i := range l {
		l[i].Not = !l[i].Not
	}
	return l
}

// compared is a comparison that says something; a fact's opposite holds where the comparison is the other way.
func (c chance) compared() made {
	f := api.Fact{Name: c.name(), Kind: api.FactIs, Text: c.one("null", "undefined")}
	asked, other := node(api.Name, f.Name), node(api.Undef, "")
	if f.Text == "null" {
		other.Kind = api.Null
	}
	if c.Intn(2) == 0 {
		f.Kind, f.Text = api.FactTypeof, c.typeofText()
		asked, other = node(api.Unary, "typeof", asked), node(api.Text, f.Text)
	}
	if c.Intn(2) == 0 {
		asked, other = other, asked
	}
	is := []api.Fact{f}
	if c.Intn(2) == 0 {
		return made{node(api.Binary, "===", asked, other), is, opposite(is)}
	}
	return made{node(api.Binary, "!==", asked, other), opposite(is), is}
}

// silent is an expression that says nothing, though conditions stand within.
func (c chance) silent(deep int) api.Node {
	inner := func() api.Node { return c.condition(deep - 1).tree }
	switch c.Intn(9) {
	case 0:
		return node(api.Unary, c.one("-", "typeof"), inner())
	case 1:
		return node(api.Binary, c.one("+", "-", "<", ">="), inner(), inner())
	case 2:
		return node(api.Cond, "", inner(), inner(), inner())
	case 3:
		return node(api.Call, "", inner(), inner())
	case 4:
		return node(api.Assign, "", node(api.Name, c.name()), inner())
	case 5:
		return node(api.Array, "", inner())
	case 6:
		return node(api.Member, c.one("x", "null", "typeof"), inner())
	case 7:
		// Held against a number, no name is told anything of.
		return node(api.Binary, c.one("===", "!=="), inner(), node(api.Num, ""))
	}
	return []api.Node{node(api.Null, ""), node(api.Undef, ""), node(api.Text, "x"), node(api.This, ""), {Kind: api.Bool, N: c.Intn(2)}}[c.Intn(5)]
}

func (c chance) condition(deep int) made {
	if deep > 1 {
		switch c.Intn(7) {
		case 0:
			m := c.condition(deep - 1)
			return made{node(api.Unary, "!", m.tree), m.ifNot, m.ifTrue}
		case 1, 2:
			a, b := c.condition(deep-1), c.condition(deep-1)
			return made{tree: node(api.Binary, "&&", a.tree, b.tree), ifTrue: slices.Concat(a.ifTrue, b.ifTrue)}
		case 3, 4:
			a, b := c.condition(deep-1), c.condition(deep-1)
			return made{tree: node(api.Binary, "||", a.tree, b.tree), ifNot: slices.Concat(a.ifNot, b.ifNot)}
		case 5:
			return made{tree: c.silent(deep)}
		}
	}
	if c.Intn(2) == 0 {
		return c.compared()
	}
	is := []api.Fact{{Name: c.name(), Kind: api.FactTrue}}
	return made{node(api.Name, is[0].Name), is, opposite(is)}
}

// 17.1: conditions by chance say what their parts say; often several facts.
func TestFactsMade(t *testing.T) {
	several := 0
	for seed := range int64(20_000) {
		c := by(seed)
		m := c.condition(1 + c.Intn(8))
		if tree.Form(m.tree) != api.FormExpr {
			t.Fatal(m.tree)
		}
		says(t, m.tree, brief(m.ifTrue), brief(m.ifNot))
		if !slices.Equal(Facts(m.tree, true), m.ifTrue) || !slices.Equal(Facts(m.tree, false), m.ifNot) {
			t.Fatal(show.Show(m.tree))
		}
		if len(m.ifTrue) > 2 || len(m.ifNot) > 2 {
			several++
		}
	}
	if several < 1000 {
		t.Error(several)
	}
}

// A thing is what a name may be while a condition is asked: what typeof tells of it, whether it is true, and a type that it has.
type thing struct {
	typeof string
	isTrue bool
	t      string
}

var (
	nothing = thing{"object", false, "null"}
	missing = thing{"undefined", false, "undefined"}
	things  = []thing{
		nothing, missing, {"number", true, "number"}, {"number", false, "number"}, {"string", true, "string"}, {"string", false, "string"}, {"boolean", true, "boolean"}, {"boolean", false, "boolean"},
		{"object", true, "any[]"}, {"object", true, "{ a: number; }"}, {"object", true, "inst0"}, {"object", true, "space0"}, {"function", true, "() => any"}, {"function", true, "class0"},
	}
)

// holds tells whether a fact is so of a thing.
func holds(f api.Fact, x thing) bool {
	so := x.isTrue
	switch f.Kind {
	case api.FactTypeof:
		so = x.typeof == f.Text
	case api.FactIs:
		so = f.Text == x.t && (x == nothing || x == missing)
	}
	return so != f.Not
}

// comesTo tells whether a condition is true where its names are those things; ok is false, where that hangs on more.
func comesTo(n api.Node, names map[string]thing) (is, ok bool) {
	switch {
	case n.Kind == api.Name:
		return names[n.Text].isTrue, true
	case n.Kind == api.Unary && n.Text == "!":
		is, ok := comesTo(n.Kids[0], names)
		return !is, ok
	case n.Kind == api.Binary && (n.Text == "&&" || n.Text == "||"):
		is, ok := comesTo(n.Kids[0], names)
		if ok && is == (n.Text == "&&") {
			return comesTo(n.Kids[1], names)
		}
		return is, ok
	case n.Kind == api.Binary && (n.Text == "===" || n.Text == "!=="):
		a, b := n.Kids[0], n.Kids[1]
		if b.Kind == api.Name || b.Kind == api.Unary {
			a, b = b, a
		}
		equal := false
		switch {
		case a.Kind == api.Name && b.Kind == api.Null:
			equal = names[a.Text] == nothing
		case a.Kind == api.Name && b.Kind == api.Undef:
			equal = names[a.Text] == missing
		case a.Kind == api.Unary && a.Text == "typeof" && a.Kids[0].Kind == api.Name && b.Kind == api.Text:
			equal = names[a.Kids[0].Text].typeof == b.Text
		default:
			return false, false
		}
		return equal == (n.Text == "==="), true
	}
	return false, false
}

// 17.1, 17.2: whatever the names are, what a condition says of them is so where it comes to that, and what is left of their types has room for them.
func TestFactsHold(t *testing.T) {
	seen := 0
	for seed := range int64(20_000) {
		c := by(seed)
		m := c.condition(1 + c.Intn(6))
		names := map[string]thing{}
		for _, name := range []string{"x", "y", "z", "a$1", "ä"} {
			names[name] = things[c.Intn(len(things))]
		}
		is, ok := comesTo(m.tree, names)
		if !ok {
			continue
		}
		for _, f := range Facts(m.tree, is) {
			x := names[f.Name]
			if !holds(f, x) {
				t.Fatalf("%s is %v, but not %s of %v", show.Show(m.tree), is, brief([]api.Fact{f}), x)
			}
			whole := must(types.Union(typ(x.t), c.may(3)))
			if left := Narrow(whole, f); !sub.Sub(typ(x.t), left, nil) {
				t.Fatalf("%s of %s leaves %s, though it is %s", brief([]api.Fact{f}), shown(whole), shown(left), x.t)
			}
			seen++
		}
	}
	if seen < 5000 {
		t.Error(seen)
	}
}

// may makes a type that may be, at most so deep.
func (c chance) may(deep int) api.Type {
	if deep > 1 {
		switch c.Intn(9) {
		case 0:
			return list(c.may(deep - 1))
		case 1:
			return must(types.Record([]api.Slot{{Name: "a", Type: c.may(deep - 1)}, {Name: "null", Type: c.may(deep - 1)}}[:c.Intn(3)]))
		case 2:
			return fn(c.mays(1+c.Intn(2), deep-1)...)
		case 3, 4, 5, 6:
			return c.union(deep)
		}
	}
	if c.Intn(3) == 0 {
		return numbered(api.TypeInst+c.Intn(3), c.Intn(3))
	}
	return one(api.TypeAny + c.Intn(6))
}

func (c chance) mays(n, deep int) []api.Type {
	var l []api.Type
	for range n {
		l = append(l, c.may(deep))
	}
	return l
}

// union is one of types that are not any; so it often has several.
func (c chance) union(deep int) api.Type {
	l := c.mays(2+c.Intn(5), deep-1)
	for i := range l {
		if l[i].Kind == api.TypeAny {
			l[i].Kind = api.TypeNull
		}
	}
	return must(types.Union(l...))
}

func (c chance) fact() api.Fact {
	return api.Fact{Name: c.name(), Kind: 1 + c.Intn(3), Text: c.typeofText(), Not: c.Intn(2) == 0}
}

// spoil changes one thing of a type or of one within; often it may not be then.
func (c chance) spoil(t *api.Type) {
	if len(t.List) > 0 && c.Intn(2) > 0 {
		t.List = slices.Clone(t.List)
		c.spoil(&t.List[c.Intn(len(t.List))])
		return
	}
	switch c.Intn(5) {
	case 0:
		t.Kind = c.Intn(17) - 1
	case 1:
		t.N = []int{-1, 0, 1, math.MinInt, math.MaxInt}[c.Intn(5)]
	case 2:
		t.Names = append(slices.Clone(t.Names), "a")
	case 3:
		t.List = append(slices.Clone(t.List), c.may(2))
	case 4:
		t.List = t.List[:len(t.List)/2]
	}
}

// narrowed is 17.2, word for word.
func narrowed(t api.Type, f api.Fact) api.Type {
	if types.Check(t) != api.OK || f.Kind < 1 || f.Kind > 3 {
		return api.Type{}
	}
	if t.Kind == api.TypeAny {
		told := map[string]int{"1number": api.TypeNumber, "1string": api.TypeString, "1boolean": api.TypeBoolean, "1undefined": api.TypeUndef, "2null": api.TypeNull, "2undefined": api.TypeUndef}
		kind := told[string(rune('0'+f.Kind))+f.Text]
		if kind == 0 || f.Not {
			return t
		}
		return one(kind)
	}
	// By the kinds' numbers, from any on.
	typeofs := []string{"", "any", "number", "string", "boolean", "object", "undefined", "object", "object", "function", "", "object", "function", "object"}
	l := []api.Type{t}
	if t.Kind == api.TypeEither {
		l = slices.Clone(t.List)
	}
	l = slices.DeleteFunc(l, func(part api.Type) bool {
		switch f.Kind {
		case api.FactTypeof:
			return (typeofs[part.Kind] == f.Text) == f.Not
		case api.FactIs:
			is := part.Kind == api.TypeNull && f.Text == "null" || part.Kind == api.TypeUndef && f.Text == "undefined"
			return is == f.Not
		}
		if f.Not {
			return part.Kind > api.TypeUndef
		}
		return part.Kind == api.TypeNull || part.Kind == api.TypeUndef
	})
	switch len(l) {
	case 0:
		return t
	case 1:
		return l[0]
	}
	return eitherOf(l...)
}

// 17.2: types and facts by chance, against the model.
func TestNarrowMade(t *testing.T) {
	seen := map[string]int{}
	for seed := range int64(60_000) {
		c := by(seed)
		x, f := c.may(4), c.fact()
		if seed%8 == 0 {
			c.spoil(&x)
		}
		if seed%16 == 1 {
			f.Kind = c.Intn(7) - 1
		}
		want := narrowed(x, f)
		leaves(t, x, f, want)
		switch {
		case isZero(want):
			seen["none"]++
		case told(want) == told(x):
			seen["the same"]++
		case want.Kind == api.TypeEither:
			seen["some parts"]++
		default:
			seen["one part"]++
		}
	}
	for _, which := range []string{"none", "the same", "some parts", "one part"} {
		if seen[which] < 2000 {
			t.Error(which, seen[which])
		}
	}
}

// 17.3: what is left of a type may be, and is Sub of it; narrowed again it is the same.
func TestNarrowAgain(t *testing.T) {
	for seed := range int64(20_000) {
		c := by(seed)
		x, f := c.may(4), c.fact()
		if types.Check(x) != api.OK {
			continue
		}
		left := Narrow(x, f)
		if types.Check(left) != api.OK || !sub.Sub(left, x, nil) {
			t.Fatalf("Narrow(%s, %s): %s", shown(x), brief([]api.Fact{f}), shown(left))
		}
		leaves(t, left, f, left)
	}
}

// 17.2: where both a fact and its opposite leave something, they leave all parts between them.
func TestNarrowBoth(t *testing.T) {
	for seed := range int64(10_000) {
		c := by(seed)
		x, f := c.may(4), c.fact()
		if types.Check(x) != api.OK || x.Kind == api.TypeAny {
			continue
		}
		not := f
		not.Not = !f.Not
		if got := must(types.Union(Narrow(x, f), Narrow(x, not))); told(got) != told(x) {
			t.Fatalf("%s and its opposite leave %s of %s", brief([]api.Fact{f}), shown(got), shown(x))
		}
	}
}

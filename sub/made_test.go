package sub

import (
	"fmt"
	"math"
	"math/rand"
	"slices"
	"testing"

	"gusset/api"
	"gusset/types"
)

// Here stands what the chapter says, word for word, by other ways than the package's; and types that are made by chance.

// subOf is 15.1, each question a call; one that is asked within itself is no ground for a yes.
func subOf(a, b api.Type, classes []api.ClassInfo, open []string) bool {
	if types.Check(a) != api.OK || types.Check(b) != api.OK {
		return false
	}
	asked := told(a) + told(b)
	if slices.Contains(open, asked) {
		return false
	}
	open = append(slices.Clip(open), asked)
	sub := func(a, b api.Type) bool { return subOf(a, b, classes, open) }
	if a.Kind == api.TypeAny || b.Kind == api.TypeAny || told(a) == told(b) {
		return true
	}
	if a.Kind == api.TypeEither {
		for _, part := range a.List {
			if !sub(part, b) {
				return false
			}
		}
		return true
	}
	if b.Kind == api.TypeEither {
		for _, part := range b.List {
			if sub(a, part) {
				return true
			}
		}
	}
	if a.Kind == api.TypeList && b.Kind == api.TypeList {
		return sub(a.List[0], b.List[0])
	}
	if a.Kind == api.TypeFn && b.Kind == api.TypeFn {
		as, bs := len(a.List)-1, len(b.List)-1
		fits := as <= bs && sub(a.List[as], b.List[bs])
		for i := 0; i < as && fits; i++ {
			fits = sub(b.List[i], a.List[i])
		}
		return fits
	}
	if b.Kind != api.TypeRecord || a.Kind != api.TypeRecord && a.Kind != api.TypeInst {
		return false
	}
	has := slotsOf(a, classes)
	for i, name := range b.Names {
		t, ok := has[name]
		if !ok || !sub(t, b.List[i]) {
			return false
		}
	}
	return true
}

// slotsOf is what a record or an instance has.
func slotsOf(t api.Type, classes []api.ClassInfo) map[string]api.Type {
	has := map[string]api.Type{}
	if t.Kind == api.TypeRecord {
		for i, name := range t.Names {
			has[name] = t.List[i]
		}
	} else if t.N < len(classes) {
		for _, s := range slices.Backward(classes[t.N].Members) {
			has[s.Name] = s.Type
		}
	}
	return has
}

// memberOf is 15.2 of types that may be.
func memberOf(t api.Type, name string, classes []api.ClassInfo) (api.Type, bool) {
	switch t.Kind {
	case api.TypeAny:
		return one(api.TypeAny), true
	case api.TypeRecord, api.TypeInst:
		found, ok := slotsOf(t, classes)[name]
		return found, ok
	case api.TypeString, api.TypeList:
		if name == "length" {
			return one(api.TypeNumber), true
		}
	case api.TypeEither:
		var all []api.Type
		for _, part := range t.List {
			if found, ok := memberOf(part, name, classes); ok {
				all = append(all, found)
			}
		}
		if len(all) == len(t.List) {
			if union, err := types.Union(all...); err == api.OK {
				return union, true
			}
		}
	}
	return api.Type{}, false
}

// chance makes types by chance, of the kinds up to last; without any, if it has not to be.
type chance struct {
	*rand.Rand
	noAny bool
	names []string
	last  int
}

func by(seed int64) chance {
	return chance{Rand: rand.New(rand.NewSource(seed)), names: []string{"a", "b", "c", "length"}, last: api.TypeSpace}
}

// oneOf is a type without parts; instances of few numbers, so that often two are the same.
func (c chance) oneOf() api.Type {
	if c.Intn(2) == 0 && c.last >= api.TypeInst {
		kind := []int{api.TypeInst, api.TypeInst, api.TypeInst, api.TypeClass, api.TypeSpace}[c.Intn(5)]
		return numbered(min(kind, c.last), c.Intn(5))
	}
	t := one(api.TypeAny + c.Intn(4))
	if c.noAny && t.Kind == api.TypeAny {
		t.Kind = api.TypeNull
	}
	return t
}

// may makes a type that may be, at most so deep.
func (c chance) may(deep int) api.Type {
	if deep <= 1 {
		return c.oneOf()
	}
	switch c.Intn(8) {
	case 0:
		return list(c.may(deep - 1))
	case 1, 2, 3:
		return must(types.Record(c.slots(deep - 1)))
	case 4, 5:
		return fn(c.mays(1+c.Intn(3), deep-1)...)
	case 6:
		return must(types.Union(c.mays(1+c.Intn(4), deep-1)...))
	}
	return c.oneOf()
}

func (c chance) mays(n, deep int) []api.Type {
	var l []api.Type
	for range n {
		l = append(l, c.may(deep))
	}
	return l
}

func (c chance) slots(deep int) []api.Slot {
	var l []api.Slot
	for _, name := range c.names {
		if c.Intn(3) == 0 {
			l = append(l, slot(name, c.may(deep)))
		}
	}
	return l
}

func (c chance) classes(deep int) []api.ClassInfo {
	classes := make([]api.ClassInfo, c.Intn(5))
	for i := range classes {
		classes[i] = api.ClassInfo{Mod: i, Members: c.slots(deep)}
	}
	return classes
}

// near is a type that is like another one but for some parts, so that it often is Sub of it.
func (c chance) near(t api.Type) api.Type {
	if c.Intn(6) == 0 {
		return c.may(2)
	}
	var l []api.Type
	for _, part := range t.List {
		l = append(l, c.near(part))
	}
	switch t.Kind {
	case api.TypeEither:
		return must(types.Union(l...))
	case api.TypeFn:
		if n := c.Intn(6); n == 0 {
			l = append([]api.Type{c.may(1)}, l...)
		} else if n == 1 && len(l) > 1 {
			l = slices.Delete(l, len(l)-2, len(l)-1)
		}
	case api.TypeRecord:
		var slots []api.Slot
		for i, name := range t.Names {
			if c.Intn(4) > 0 {
				slots = append(slots, slot(name, l[i]))
			}
		}
		return must(types.Record(slots))
	}
	t.List = l
	return t
}

// spoil changes one thing of a type or of one within; often it may not be then.
func (c chance) spoil(t *api.Type) {
	if len(t.List) > 0 && c.Intn(3) > 0 {
		t.List = slices.Clone(t.List)
		c.spoil(&t.List[c.Intn(len(t.List))])
		return
	}
	switch c.Intn(6) {
	case 0:
		t.Kind = c.Intn(17) - 1
	case 1:
		t.N = []int{-1, 0, 1, math.MinInt, math.MaxInt}[c.Intn(5)]
	case 2:
		t.Names = append(slices.Clone(t.Names), "a")
	case 3:
		t.Names = t.Names[:len(t.Names)/2]
	case 4:
		t.List = append(slices.Clone(t.List), c.may(2))
	case 5:
		t.List = t.List[:len(t.List)/2]
	}
}

// held holds Sub of two types against the model.
func held(t *testing.T, a, b api.Type, classes []api.ClassInfo) bool {
	t.Helper()
	want := subOf(a, b, classes, nil)
	if got := Sub(a, b, classes); got != want {
		t.Fatalf("Sub(%s, %s): %v\n%s", brief(a), brief(b), got, shown(classes))
	}
	return want
}

func shown(classes []api.ClassInfo) string {
	s := ""
	for i, info := range classes {
		s += fmt.Sprintf("inst%d:", i)
		for _, m := range info.Members {
			s += " " + m.Name + ": " + brief(m.Type) + ";"
		}
		s += "\n"
	}
	return s
}

// 15.1: types and classes by chance, against the model; both answers are met often.
func TestSubMade(t *testing.T) {
	seen := [2]int{}
	for seed := range int64(30_000) {
		c := by(seed)
		c.noAny = seed%2 == 0
		classes := c.classes(4)
		a := c.may(5)
		b := c.near(a)
		if seed%9 == 0 {
			c.spoil([]*api.Type{&a, &b}[c.Intn(2)])
		}
		if len(classes) > 0 && seed%11 == 0 && len(classes[0].Members) > 0 {
			c.spoil(&classes[0].Members[0].Type)
		}
		for _, p := range [][2]api.Type{{a, b}, {b, a}, {a, c.may(4)}, {a, a}} {
			if held(t, p[0], p[1], classes) {
				seen[1]++
			} else {
				seen[0]++
			}
		}
	}
	if min(seen[0], seen[1]) < 10_000 {
		t.Error(seen)
	}
}

// 15.4: every type that may be is Sub of itself.
func TestSubOfItself(t *testing.T) {
	for seed := range int64(3000) {
		c := by(seed)
		x := c.may(6)
		if types.Check(x) == api.OK {
			isSub(t, true, x, x, c.classes(3))
		}
	}
}

// 15.4: where neither any nor instances are in play, Sub of a and b and of b and c gives Sub of a and c.
func TestSubGoesOn(t *testing.T) {
	seen := 0
	for seed := range int64(40_000) {
		c := by(seed)
		c.noAny, c.last = true, api.TypeEither
		x := c.may(4)
		y := c.near(x)
		z := c.near(y)
		if Sub(x, y, nil) && Sub(y, z, nil) {
			isSub(t, true, x, z, nil)
			if told(x) != told(y) && told(y) != told(z) {
				seen++
			}
		}
	}
	if seen < 500 {
		t.Error(seen)
	}
}

package types

import (
	"cmp"
	"math"
	"math/rand"
	"slices"
	"strings"

	"gusset/api"
)

// Here stands what the chapter says, word for word, by other ways than the package's; and types that are made by chance.

// isOf tells whether a type may be.
func isOf(t api.Type) bool {
	for _, part := range t.List {
		if !isOf(part) {
			return false
		}
	}
	least, most := 0, 0
	switch t.Kind {
	case api.TypeList:
		least, most = 1, 1
	case api.TypeFn:
		least, most = 1, math.MaxInt
	case api.TypeEither:
		least, most = 2, math.MaxInt
	case api.TypeRecord:
		least, most = len(t.Names), len(t.Names)
	}
	if t.Kind < 1 || t.Kind > 13 || t.N < 0 || t.N > 0 && t.Kind < api.TypeInst || len(t.Names) > 0 && t.Kind != api.TypeRecord {
		return false
	}
	if len(t.List) < least || len(t.List) > most {
		return false
	}
	for i := range t.Names {
		if i > 0 && t.Names[i-1] >= t.Names[i] {
			return false
		}
	}
	return t.Kind != api.TypeEither || areOfEither(t.List)
}

func areOfEither(l []api.Type) bool {
	for i, part := range l {
		if part.Kind == api.TypeEither || part.Kind == api.TypeAny || i > 0 && heldAgainst(l[i-1], part) != -1 {
			return false
		}
	}
	return true
}

// A key is a number or a text of a type.
type key struct {
	number int
	text   string
}

// keys are all that can differ, in the order of the chapter's words: as each count stands ahead of what it counts, the first that differs is at the same place of the same thing.
func keys(l []key, t api.Type) []key {
	l = append(l, key{number: t.Kind}, key{number: t.N}, key{number: len(t.Names)})
	for _, s := range t.Names {
		l = append(l, key{text: s})
	}
	l = append(l, key{number: len(t.List)})
	for _, part := range t.List {
		l = keys(l, part)
	}
	return l
}

func heldAgainst(a, b api.Type) int {
	k, l := keys(nil, a), keys(nil, b)
	for i := range min(len(k), len(l)) {
		switch {
		case k[i].number < l[i].number || k[i].text < l[i].text:
			return -1
		case k[i] != l[i]:
			return 1
		}
	}
	return cmp.Compare(len(k), len(l))
}

// parts are how many a type has, itself among them.
func parts(t api.Type) int {
	left := []api.Type{t}
	for i := 0; i < len(left); i++ {
		left = append(left, left[i].List...)
	}
	return len(left)
}

// unionOf is 14.3.
func unionOf(l []api.Type) (api.Type, api.Errno) {
	hasAny := false
	for _, t := range l {
		if !isOf(t) {
			return api.Type{}, api.ErrArg
		}
		hasAny = hasAny || t.Kind == api.TypeAny
	}
	if len(l) == 0 {
		return api.Type{}, api.ErrArg
	}
	if hasAny {
		return anyType, api.OK
	}
	var in []api.Type
	for _, t := range l {
		place := []api.Type{t}
		if t.Kind == api.TypeEither {
			place = t.List
		}
		for _, part := range place {
			in = putIn(in, part)
		}
	}
	t := in[0]
	if len(in) > 1 {
		t = eitherOf(in...)
	}
	if parts(t) > 300 {
		return api.Type{}, api.ErrComplex
	}
	return t, api.OK
}

// putIn puts a type among those that rise, ahead of the first that is above it.
func putIn(in []api.Type, t api.Type) []api.Type {
	for i, other := range in {
		switch heldAgainst(t, other) {
		case 0:
			return in
		case -1:
			return slices.Insert(in, i, t)
		}
	}
	return append(in, t)
}

// recordOf is 14.4.
func recordOf(l []api.Slot) (api.Type, api.Errno) {
	types := map[string]api.Type{}
	t := one(api.TypeRecord)
	for _, s := range l {
		if _, has := types[s.Name]; has || !isOf(s.Type) {
			return api.Type{}, api.ErrArg
		}
		types[s.Name] = s.Type
		t.Names = append(t.Names, s.Name)
	}
	slices.Sort(t.Names)
	for _, s := range t.Names {
		t.List = append(t.List, types[s])
	}
	if parts(t) > 300 {
		return api.Type{}, api.ErrComplex
	}
	return t, api.OK
}

// chance makes types by chance.
type chance struct{ *rand.Rand }

func by(seed int64) chance { return chance{rand.New(rand.NewSource(seed))} }

var someNames = []string{"a", "b", "aa", "A", "_", "a1", "ä", "if", "default", "length", "x$1"}

// names are some that rise.
func (c chance) names(n int) []string {
	var l []string
	for range n {
		l = append(l, someNames[c.Intn(len(someNames))])
	}
	slices.Sort(l)
	return slices.Compact(l)
}

// oneOf is a type without parts.
func (c chance) oneOf() api.Type {
	if c.Intn(3) == 0 {
		return numbered(api.TypeInst+c.Intn(3), []int{0, 1, 2, 10, math.MaxInt}[c.Intn(5)])
	}
	return one(api.TypeAny + c.Intn(6))
}

// may makes a type that may be, at most so deep.
func (c chance) may(deep int) api.Type {
	if deep <= 1 {
		return c.oneOf()
	}
	switch c.Intn(7) {
	case 0:
		return list(c.may(deep - 1))
	case 1:
		names := c.names(c.Intn(4))
		return api.Type{Kind: api.TypeRecord, Names: names, List: c.mays(len(names), deep-1)}
	case 2:
		return fn(c.mays(1+c.Intn(3), deep-1)...)
	case 3, 4, 5:
		var in []api.Type
		for len(in) < 2 || c.Intn(3) > 0 {
			if t := c.may(deep - 1); t.Kind != api.TypeEither && t.Kind != api.TypeAny {
				in = putIn(in, t)
			}
		}
		return eitherOf(in...)
	}
	return c.oneOf()
}

func (c chance) mays(n, deep int) []api.Type {
	var l []api.Type
	for range n {
		l = append(l, c.may(deep))
	}
	return l
}

// spoil changes one thing of a type or of one within; often it may not be then.
func (c chance) spoil(t *api.Type) {
	if len(t.List) > 0 && c.Intn(3) > 0 {
		t.List = slices.Clone(t.List)
		c.spoil(&t.List[c.Intn(len(t.List))])
		return
	}
	switch c.Intn(8) {
	case 0:
		t.Kind = c.Intn(17) - 1
	case 1:
		t.N = []int{-1, 0, 1, math.MinInt, math.MaxInt}[c.Intn(5)]
	case 2:
		t.Names = append(slices.Clone(t.Names), someNames[c.Intn(len(someNames))])
	case 3:
		t.Names = t.Names[:len(t.Names)/2]
	case 4:
		t.List = append(slices.Clone(t.List), c.may(2))
	case 5:
		t.List = t.List[:len(t.List)/2]
	case 6:
		t.List = slices.Clone(t.List)
		slices.Reverse(t.List)
	case 7:
		t.Names = strings.Split(strings.Join(t.Names, "|"), "a")
	}
}

// any makes a type that may be, or one that was so until it was spoilt.
func (c chance) any(deep int) api.Type {
	t := c.may(deep)
	if c.Intn(4) == 0 {
		c.spoil(&t)
	}
	return t
}

package sub

import (
	"gusset/api"
	"gusset/types"
)

// A pair is a question: whether a may stand for b. types.Check refuses neither.
type pair struct {
	a, b api.Type
}

// A row is what a question hangs on: all of its pairs, or one of them. So all of none is a yes, and one of none a no.
type row struct {
	pairs []pair
	all   bool
}

// rowOf is the row of the rule that the kinds of a pair choose: but for any and what is the same, no two rules meet.
func rowOf(p pair, classes []api.ClassInfo) row {
	a, b := p.a, p.b
	switch {
	case a.Kind == api.TypeAny || b.Kind == api.TypeAny || types.Compare(a, b) == 0:
		return row{all: true}
	case a.Kind == api.TypeEither:
		return allOf(a.List, func(_ int, part api.Type) (pair, bool) { return pair{part, b}, true })
	case b.Kind == api.TypeEither:
		return row{pairs: allOf(b.List, func(_ int, part api.Type) (pair, bool) { return pair{a, part}, true }).pairs}
	case b.Kind == api.TypeRecord && (a.Kind == api.TypeRecord || a.Kind == api.TypeInst):
		return recordRow(a, b, classes)
	case a.Kind != b.Kind:
		return row{}
	case a.Kind == api.TypeList:
		return allOf(a.List, func(at int, part api.Type) (pair, bool) { return pair{part, b.List[at]}, true })
	case a.Kind == api.TypeFn:
		return fnRow(a, b)
	}
	return row{}
}

// allOf asks something of each part; it is a no, if of one nothing can be asked.
func allOf[T any](parts []T, ask func(at int, part T) (pair, bool)) row {
	r := row{all: true}
	for at, part := range parts {
		p, ok := ask(at, part)
		if !ok {
			return row{}
		}
		r.pairs = append(r.pairs, p)
	}
	return r
}

// fnRow asks parameters the other way round: a is handed what b takes.
func fnRow(a, b api.Type) row {
	last := len(a.List) - 1
	if last > len(b.List)-1 {
		return row{}
	}
	r := allOf(a.List[:last], func(at int, param api.Type) (pair, bool) { return pair{b.List[at], param}, true })
	r.pairs = append(r.pairs, pair{a.List[last], b.List[len(b.List)-1]})
	return r
}

// recordRow asks for each name of b. What stands in classes nobody has checked yet.
func recordRow(a, b api.Type, classes []api.ClassInfo) row {
	return allOf(b.Names, func(at int, name string) (pair, bool) {
		part, ok := member(a, name, classes)
		return pair{part, b.List[at]}, ok && isType(part)
	})
}

package sub

import (
	"strconv"
	"testing"

	"gusset/api"
	"gusset/types"
)

// 15.1, R1: a question that leads back to itself alone is no ground for a yes.
func TestCircle(t *testing.T) {
	r := "{ f: (a: inst0) => number; }"
	classes := classesOf("f: (a: " + r + ") => number;")
	isSub(t, false, typ("inst0"), typ(r), classes)
	isSub(t, false, typ("inst0"), typ("{ f: (a: inst0) => any; }"), classes)
	isSub(t, false, typ("inst0[]"), typ(r+"[]"), classes)
	isSub(t, false, typ("(a: "+r+") => number"), typ("(a: inst0) => number"), classes)
	// The same beside other ways: a yes that needs no circle, and a no.
	isSub(t, true, typ("inst0"), typ(r+" | {}"), classes)
	isSub(t, true, typ("inst0"), typ("{ f: (a: "+r+") => number; }"), classes)
	isSub(t, true, typ("inst0"), typ("{ f: (a: any) => number; }"), classes)
	isSub(t, false, typ("inst0"), typ("{ f: (a: inst0) => string; }"), classes)
	isSub(t, false, typ("inst0"), typ("{ f: (a: inst1) => number; }"), classes)
}

// 15.1, R1: what was a no within a question that comes to a yes is asked once more.
func TestCircleOnceMore(t *testing.T) {
	// inst0 asks for inst1, which asks for inst0 again, and comes to a yes by another way; only then can inst1.
	r0 := "{ f: (a: inst1) => number; }"
	r1 := "{ g: (a: inst0) => number; }"
	classes := classesOf("f: (a: "+r1+" | { h: null; }) => number;", "g: (a: "+r0+") => number; h: null;")
	isSub(t, true, typ("inst0"), typ(r0), classes)
	isSub(t, true, typ("inst1"), typ(r1), classes)
	isSub(t, true, typ("inst0 | inst1"), typ(r0+" | "+r1), classes)
	isSub(t, true, typ("{ a: inst0; b: inst1; }"), typ("{ a: "+r0+"; b: "+r1+"; }"), classes)
	isSub(t, true, typ("{ a: inst1; b: inst0; }"), typ("{ a: "+r1+"; b: "+r0+"; }"), classes)
	// Without the other way neither can.
	classes = classesOf("f: (a: "+r1+" | { h: null; }) => number;", "g: (a: "+r0+") => number;")
	isSub(t, false, typ("inst0"), typ(r0), classes)
	isSub(t, false, typ("inst1"), typ(r1), classes)
	isSub(t, false, typ("{ a: inst0; b: inst1; }"), typ("{ a: "+r0+"; b: "+r1+"; }"), classes)
}

// circular makes records of functions that take instances, whose classes take such records; beside them often what can be had without a circle.
func (c chance) circular(deep int) api.Type {
	r := record("a", fn(numbered(api.TypeInst, c.Intn(4)), typ("null")))
	if deep > 1 && c.Intn(2) == 0 {
		r = record("a", fn(c.circular(deep-1), typ("null")))
	}
	switch c.Intn(4) {
	case 0:
		return must(types.Union(r, c.circular(deep)))
	case 1:
		return must(types.Union(r, typ("{ b: null; }")))
	case 2:
		return must(types.Union(r, record("b", r)))
	}
	return r
}

// 15.1, R1: classes by chance whose questions lead back to themselves, against the model; often some are asked once more.
func TestCirclesMade(t *testing.T) {
	seen, again := [2]int{}, [2]int{}
	for seed := range int64(2000) {
		c := by(seed)
		var classes []api.ClassInfo
		for range 4 {
			b := []api.Type{typ("null"), typ("number"), numbered(api.TypeInst, c.Intn(4)), c.circular(1)}[c.Intn(4)]
			classes = append(classes, api.ClassInfo{Members: []api.Slot{slot("a", fn(c.circular(2), typ("null"))), slot("b", b)}})
		}
		for range 4 {
			a, b, at := api.Type{Kind: api.TypeFn}, api.Type{Kind: api.TypeFn}, 0
			for range 3 {
				a.List, b.List = append(a.List, c.circular(1)), append(b.List, numbered(api.TypeInst, c.Intn(4)))
			}
			a.List[2], b.List[2] = b.List[2], a.List[2]
			if held(t, a, b, classes) {
				at = 1
			}
			seen[at]++
			if rounds(a, b, classes) > 1 {
				again[at]++
			}
		}
	}
	if min(seen[0], seen[1]) < 1000 || min(again[0], again[1]) < 40 {
		t.Error(seen, again)
	}
}

// rounds is how many a search takes.
func rounds(a, b api.Type, classes []api.ClassInfo) int {
	s := search{classes: classes, known: map[question]state{}}
	for n := 1; ; n++ {
		s.again = false
		if s.round(pair{a, b}) || !s.again {
			return n
		}
		for q, known := range s.known {
			if known != isYes {
				delete(s.known, q)
			}
		}
	}
}

// chain has classes each of which asks for the next one; the last one has what is asked of it, or has it not.
func chain(n int, last api.Type) []api.ClassInfo {
	classes := make([]api.ClassInfo, n)
	for i := range classes {
		asked := record("f", fn(numbered(api.TypeInst, i+2), typ("null")))
		if i == n-1 {
			asked = last
		}
		classes[i].Members = []api.Slot{slot("f", fn(asked, typ("null")))}
	}
	return classes
}

// R1: very many classes, each asked within the one ahead.
func TestLongChain(t *testing.T) {
	const n = 200_000
	a, b := typ("inst0"), typ("{ f: (a: inst1) => null; }")
	isSub(t, true, a, b, chain(n, typ("{}")))
	isSub(t, false, a, b, chain(n, typ("{ g: null; }")))
	// The last one leads back to the first.
	isSub(t, false, a, b, chain(n, b))
}

// R1: questions that would be asked over and over, twice as often with each class, if none were kept.
func TestKept(t *testing.T) {
	const n = 60
	for _, last := range []string{"f: (a: {}) => null; g: (a: {}) => null;", "f: (a: { h: null; }) => null; g: (a: { h: null; }) => null;"} {
		var bodies []string
		for i := range n - 1 {
			next := "inst" + strconv.Itoa(i+2)
			asked := "{ f: (a: " + next + ") => null; g: (a: " + next + ") => null; }"
			bodies = append(bodies, "f: (a: "+asked+" | { x: null; }) => null; g: (a: "+asked+" | { y: null; }) => null;")
		}
		classes := classesOf(append(bodies, last)...)
		isSub(t, len(last) < 45, typ("inst0"), typ("{ f: (a: inst1) => null; g: (a: inst1) => null; }"), classes)
	}
}

// recordOf is a record of names that rise, and as many types.
func recordOf(names []string, l ...api.Type) api.Type {
	return api.Type{Kind: api.TypeRecord, Names: names, List: l}
}

// keyed are records that are alike in much.
func keyed() []api.Type {
	n := typ("number")
	l := []api.Type{
		typ("{}"), typ("{ x: any; }"), typ("{ x: number; }"), typ("{ x: string; }"), typ("{ y: number; }"), typ("{ x: number; y: number; }"), typ("{ x: { y: number; }; }"), typ("{ x: {}; }"),
		typ("{ x: number[]; }"), typ("{ x: () => number; }"), typ("{ x: (a: number) => number; }"), typ("{ x: () => number[]; }"), typ("{ x: (() => number)[]; }"), typ("{ x: number[][]; }"),
		typ("{ x: inst0; }"), typ("{ x: class0; }"), typ("{ x: space0; }"), typ("{ x: inst1; }"), typ("{ x: inst10; }"), typ("{ x: inst1; y: inst0; }"), typ("{ x: inst10; y: inst0; }"),
		typ("{ x: (a: number) => () => number; }"), typ("{ x: (a: () => number) => number; }"), typ("{ x: (a: number, b: number) => number; }"), typ("{ x: number | string; }"), typ("{ x: (a: number) => string; }"),
		typ("{ x: () => (a: number) => number; }"), typ("{ x: inst1; y: inst200113; }"), typ("{ x: inst100112; y: inst3; }"),
		recordOf([]string{"a", "bc"}, n, n), recordOf([]string{"ab", "c"}, n, n), recordOf([]string{"", "abc"}, n, n), recordOf([]string{"abc", "abc "}, n, n), recordOf([]string{"a1 b", "c"}, n, n), recordOf([]string{"a", "b", "c"}, n, n, n),
	}
	// Names that spell what the layout of another record has.
	for _, t := range l[:len(l):len(l)] {
		key := string(appendKey(nil, t))
		l = append(l, recordOf([]string{key}, n), recordOf([]string{"x" + key}, n), recordOf([]string{"1 x" + key}, n))
	}
	return l
}

// 15.1: questions of one class and records that are alike in much are kept apart.
func TestKeptApart(t *testing.T) {
	l := keyed()
	for i, a := range l {
		for j, b := range l {
			if same := string(appendKey(nil, a)) == string(appendKey(nil, b)); same != (i == j) {
				t.Errorf("%s, %s: %v", brief(a), brief(b), same)
			}
			classes := []api.ClassInfo{{}}
			for at, name := range a.Names {
				classes[0].Members = append(classes[0].Members, slot(name, a.List[at]))
			}
			want := subOf(typ("inst0"), b, classes, nil)
			isSub(t, want, fn(a, b, typ("null")), typ("(a: inst0, b: inst0) => null"), classes)
			isSub(t, want, fn(b, a, typ("null")), typ("(a: inst0, b: inst0) => null"), classes)
		}
	}
}

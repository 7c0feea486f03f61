package shake

import (
	"fmt"
	"reflect"
	"slices"
	"testing"

	"gusset/api"
)

// roomy is a copy whose lists have room behind them, and in that what could be taken for something.
func roomy[T any](v T) T {
	return roomyValue(reflect.ValueOf(v)).Interface().(T)
}

func roomyValue(v reflect.Value) reflect.Value {
	c := reflect.New(v.Type()).Elem()
	switch v.Kind() {
	case reflect.Slice:
		c = reflect.MakeSlice(v.Type(), v.Len()+2, v.Len()+2)
		for i := range v.Len() + 2 {
			if v.Len() > 0 {
				c.Index(i).Set(roomyValue(v.Index(i % v.Len())))
			}
		}
		c = c.Slice(0, v.Len())
	case reflect.Struct:
		for i := range v.NumField() {
			c.Field(i).Set(roomyValue(v.Field(i)))
		}
	default:
		c.Set(v)
	}
	return c
}

// whole tells all of something, what lies behind its lists too.
func whole(s []byte, v reflect.Value) []byte {
	switch v.Kind() {
	case reflect.Slice:
		s = fmt.Append(s, v.Len(), "[")
		for i := range v.Cap() {
			s = whole(s, v.Slice(0, v.Cap()).Index(i))
		}
		return append(s, ']')
	case reflect.Struct:
		for i := range v.NumField() {
			s = whole(s, v.Field(i))
		}
		return s
	}
	return fmt.Append(s, v.Interface(), " ")
}

// all are the three answers.
type all struct {
	roots, keep []api.Origin
	spaces      []int
}

func allOf(l api.Linked) all { return all{Roots(l), Keep(l), Spaces(l)} }

func (a all) String() string { return fmt.Sprint(a.roots, a.keep, a.spaces) }

// spoilLists writes over the answers, and over what lies behind them.
func (a all) spoilLists() {
	for _, l := range [][]api.Origin{a.roots, a.keep} {
		for i := range l[:cap(l)] {
			l[:cap(l)][i] = api.Origin{Mod: -7, Item: -7}
		}
	}
	for i := range a.spaces[:cap(a.spaces)] {
		a.spaces[:cap(a.spaces)][i] = -7
	}
}

// R4, R5: what is handed in stays as it was, what lies behind its lists too, and that plays no part; the answer is the same each time, and what is done to one shows in no other.
func TestMemory(t *testing.T) {
	t.Parallel()
	for _, made := range made(t, 250) {
		want := allOf(made.linked).String()
		l := roomy(made.linked)
		before := string(whole(nil, reflect.ValueOf(l)))
		one, two := allOf(l), allOf(l)
		if one.String() != want || two.String() != want {
			t.Fatalf("%q: %s, then %s, want %s", made.sources, one, two, want)
		}
		one.spoilLists()
		if two.String() != want {
			t.Fatalf("%q: two answers share memory", made.sources)
		}
		if three := allOf(l); three.String() != want {
			t.Fatalf("%q: %s, want %s", made.sources, three, want)
		}
		if string(whole(nil, reflect.ValueOf(l))) != before {
			t.Fatalf("%q: what was handed in is changed", made.sources)
		}
	}
}

// R4: no two lists of one answer are the same memory; where all that is kept are roots, too.
func TestAnswersApart(t *testing.T) {
	l := linked(t, "print(1); export let a = 1; print(2);")
	one := allOf(l)
	one.roots[0] = api.Origin{Mod: 5}
	if told(one.keep) != "0.0 0.1 0.2" {
		t.Error(one)
	}
	_ = append(one.roots, api.Origin{Mod: 9})
	if two := allOf(l); told(two.roots) != "0.0 0.1 0.2" || !slices.Equal(two.roots, two.keep) {
		t.Error(two)
	}
}

// R4: nothing is kept of what was handed in.
func TestNothingKept(t *testing.T) {
	l := linked(t, "import * as n from './b'; print(n); f(); function f() { }", "export let a = 1; let b = 2;")
	a := allOf(l)
	want := a.String()
	clear(l.Graph.Mods[0].Tree.Kids)
	clear(l.Scopes[0].Uses)
	clear(l.Entries[1].Own)
	if a.String() != want {
		t.Error(a)
	}
	// Other modules with the same paths are others.
	sample{of("import * as n from './b'; f(); function f() { }", "export let a = 1; b; let b = 2;"), "1.1 0.1", "1.1 1.2 0.1 0.2", ""}.hold(t)
}

// R3: lists that are empty may be nil or not.
func TestEmptyLists(t *testing.T) {
	l := linked(t, "import * as n from './b'; class C { } new C(); n; f(); function f() { }", "export let a = 1; { }")
	want := allOf(l).String()
	var fill func(v reflect.Value)
	fill = func(v reflect.Value) {
		switch v.Kind() {
		case reflect.Slice:
			if v.IsNil() {
				v.Set(reflect.MakeSlice(v.Type(), 0, 0))
			}
			for i := range v.Len() {
				fill(v.Index(i))
			}
		case reflect.Struct:
			for i := range v.NumField() {
				fill(v.Field(i))
			}
		}
	}
	fill(reflect.ValueOf(&l).Elem())
	if got := allOf(l).String(); got != want || want != fmt.Sprint("[{1 1} {0 2} {0 3} {0 4}] [{1 0} {1 1} {0 1} {0 2} {0 3} {0 4} {0 5}] [1]") {
		t.Error(got, want)
	}
}

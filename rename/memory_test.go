package rename

import (
	"fmt"
	"reflect"
	"runtime"
	"slices"
	"strings"
	"testing"
	"unsafe"

	"gusset/api"
	"gusset/tree"
)

// A span is where a piece of memory begins and ends.
type span struct{ from, to uintptr }

// spans are those of all lists and texts in something, with the lists' spare room.
func spans(l []span, v reflect.Value) []span {
	switch v.Kind() {
	case reflect.String:
		from := uintptr(unsafe.Pointer(unsafe.StringData(v.String())))
		return append(l, span{from, from + uintptr(v.Len())})
	case reflect.Slice:
		from := v.Pointer()
		l = append(l, span{from, from + uintptr(v.Cap())*v.Type().Elem().Size()})
		for i := range v.Len() {
			l = spans(l, v.Index(i))
		}
	case reflect.Struct:
		for i := range v.NumField() {
			l = spans(l, v.Field(i))
		}
	}
	return l
}

func spansOf(l ...any) []span {
	var all []span
	for _, v := range l {
		all = spans(all, reflect.ValueOf(v))
	}
	slices.SortFunc(all, func(a, b span) int {
		if a.from < b.from {
			return -1
		}
		return 1
	})
	return slices.DeleteFunc(all, func(s span) bool { return s.from >= s.to })
}

// within tells whether a piece has memory in common with one of some pieces, which are in order and apart.
func within(s span, l []span) bool {
	i, _ := slices.BinarySearchFunc(l, s.from, func(o span, from uintptr) int {
		if o.to <= from {
			return -1
		}
		return 1
	})
	return i < len(l) && l[i].from < s.to
}

// apart tells whether no two pieces have memory in common.
func apart(l []span) bool {
	for i := 1; i < len(l); i++ {
		if l[i].from < l[i-1].to {
			return false
		}
	}
	return true
}

// roomy is a copy whose lists have room behind them, and in that what could be taken for something.
func roomy[T any](v T) T {
	return roomyValue(reflect.ValueOf(v), true).Interface().(T)
}

// roomyValue leaves lists out of what lies behind others.
func roomyValue(v reflect.Value, lists bool) reflect.Value {
	c := reflect.New(v.Type()).Elem()
	switch v.Kind() {
	case reflect.Slice:
		if !lists {
			return c
		}
		c = reflect.MakeSlice(v.Type(), v.Len()+2, v.Len()+2)
		for i := range v.Len() {
			c.Index(i).Set(roomyValue(v.Index(i), true))
		}
		for i := range min(v.Len(), 2) {
			c.Index(v.Len() + i).Set(roomyValue(v.Index(i), false))
		}
		c = c.Slice(0, v.Len())
	case reflect.Struct:
		for i := range v.NumField() {
			c.Field(i).Set(roomyValue(v.Field(i), lists))
		}
	case reflect.String:
		c.SetString(strings.Clone(v.String()))
	default:
		c.Set(v)
	}
	return c
}

// whole tells all of something, what lies behind its lists too.
func whole(s []byte, v reflect.Value) []byte {
	switch v.Kind() {
	case reflect.Slice:
		s = fmt.Append(s, v.Len(), "[")
		for i := range v.Cap() {
			s = whole(s, v.Slice(0, v.Cap()).Index(i))
		}
		return append(s, ']')
	case reflect.Struct:
		for i := range v.NumField() {
			s = whole(s, v.Field(i))
		}
		return s
	}
	return fmt.Append(s, v.Interface(), " ")
}

// R4, R5: a linked graph stays as it was, what lies behind its lists too, and that plays no part; the image is the same each time, and shares no memory with it, with another image, or with itself.
func TestMemory(t *testing.T) {
	t.Parallel()
	for seed := range int64(60) {
		sources, plain := made(t, seed, true)
		l := roomy(plain)
		before := string(whole(nil, reflect.ValueOf(l)))
		given := spansOf(l)
		if !apart(given) {
			t.Fatal("what is handed in shares memory with itself")
		}
		for mod, m := range l.Graph.Mods {
			for item := range m.Tree.Kids {
				want, is := Item(plain, mod, item)
				one, ok := Item(l, mod, item)
				two, again := Item(l, mod, item)
				if ok != is || again != is || !tree.Same(one, want) || !tree.Same(two, want) {
					t.Fatalf("%q: the item %d of %d: %v, then %v, want %v", sources, item, mod, one, two, want)
				}
				answers := spansOf(one, two)
				if !apart(answers) {
					t.Fatalf("%q: the item %d of %d shares memory with itself", sources, item, mod)
				}
				for _, s := range answers {
					if within(s, given) {
						t.Fatalf("%q: the item %d of %d shares memory with what was handed in", sources, item, mod)
					}
				}
				runtime.KeepAlive(one)
				runtime.KeepAlive(two)
			}
		}
		if string(whole(nil, reflect.ValueOf(l))) != before {
			t.Fatalf("%q: what was handed in is changed", sources)
		}
	}
}

// R4: what is done to an image shows nowhere; nor does what is done to the graph show in an image.
func TestNothingKept(t *testing.T) {
	l := linked(t, "import * as n from './b'; let a = [n.x, n, [n.m.x]]; a[0];", "export let x = 1; export * as m from './b';")
	const want = "let a$0 = [x$1, $1, [x$1]];"
	one, _ := Item(l, 0, 1)
	var spoil func(n *api.Node)
	spoil = func(n *api.Node) {
		kids := n.Kids[:cap(n.Kids)]
		for i := range kids {
			spoil(&kids[i])
		}
		n.Kind, n.Text, n.N = api.Null, "over", 7
	}
	spoil(&one)
	hold(t, l, 0, 1, want)
	two, _ := Item(l, 0, 1)
	clear(l.Graph.Mods[0].Tree.Kids[1].Kids)
	clear(l.Graph.Mods[0].Tree.Kids)
	clear(l.Scopes[0].Uses)
	clear(l.Entries[1].Own)
	three := linked(t, "import * as n from './b'; let a = [n.x, n, [n.m.x]]; a[0];", "export let x = 1; export * as m from './b';")
	if again, _ := Item(three, 0, 1); !tree.Same(again, two) {
		t.Errorf("%v, want %v", two, again)
	}
}

// R4: names and numbers that are told are memory of their own.
func TestNamesMemory(t *testing.T) {
	name := strings.Clone("name")
	one, two := Name(7, name), Name(7, name)
	_, back, _ := Back(one)
	_, again, _ := Back(one)
	if !apart(spansOf(name, one, two, back, again, Space(7), Space(7))) || back != "name" {
		t.Error("shared memory")
	}
	runtime.KeepAlive([]string{name, one, two, back, again})
}

// R3: lists that are empty may be nil or not.
func TestEmptyLists(t *testing.T) {
	l := linked(t, "import * as n from './b'; class C { constructor() { n; } m() { } } [n.x(), { }, new C(), () => { }];", "export let x = 1;")
	var fill func(v reflect.Value)
	fill = func(v reflect.Value) {
		switch v.Kind() {
		case reflect.Slice:
			if v.IsNil() {
				v.Set(reflect.MakeSlice(v.Type(), 0, 0))
			}
			for i := range v.Len() {
				fill(v.Index(i))
			}
		case reflect.Struct:
			for i := range v.NumField() {
				fill(v.Field(i))
			}
		}
	}
	fill(reflect.ValueOf(&l).Elem())
	hold(t, l, 0, 0, none)
	hold(t, l, 0, 1, "class C$0 {\n  constructor() {\n    $1;\n  }\n  m() {}\n}")
	hold(t, l, 0, 2, "[x$1(), {}, new C$0(), function () {}];")
	hold(t, api.Linked{Graph: api.Graph{Mods: []api.Mod{}}, Scopes: []api.Scope{}, Entries: []api.Entries{}, Founds: [][]api.Found{}}, 0, 0, none)
}

package hoist

import (
	"fmt"
	"reflect"
	"runtime"
	"slices"
	"strings"
	"testing"
	"unsafe"

	"gusset/api"
	"gusset/tree"
)

// A piece is where some memory begins and ends.
type piece struct{ from, to uintptr }

// pieces are those of all lists and texts in something, with the lists' spare room.
func pieces(l []piece, v reflect.Value) []piece {
	switch v.Kind() {
	case reflect.String:
		from := uintptr(unsafe.Pointer(unsafe.StringData(v.String())))
		return append(l, piece{from, from + uintptr(v.Len())})
	case reflect.Slice:
		from := v.Pointer()
		l = append(l, piece{from, from + uintptr(v.Cap())*v.Type().Elem().Size()})
		for i := range v.Len() {
			l = pieces(l, v.Index(i))
		}
	case reflect.Struct:
		for i := range v.NumField() {
			l = pieces(l, v.Field(i))
		}
	}
	return l
}

func piecesOf(l ...any) []piece {
	var all []piece
	for _, v := range l {
		all = pieces(all, reflect.ValueOf(v))
	}
	slices.SortFunc(all, func(a, b piece) int {
		if a.from < b.from {
			return -1
		}
		return 1
	})
	// Texts of one byte may be the machine's own, as those of names are that one letter makes.
	return slices.DeleteFunc(all, func(p piece) bool { return p.from+1 >= p.to })
}

// apart tells whether no two pieces have memory in common.
func apart(l []piece) bool {
	for i := 1; i < len(l); i++ {
		if l[i].from < l[i-1].to {
			return false
		}
	}
	return true
}

// roomy is a copy whose lists have room behind them, and in that what could be taken for something.
func roomy[T any](v T) T {
	return roomyValue(reflect.ValueOf(v), true).Interface().(T)
}

// roomyValue leaves lists out of what lies behind others.
func roomyValue(v reflect.Value, lists bool) reflect.Value {
	c := reflect.New(v.Type()).Elem()
	switch v.Kind() {
	case reflect.Slice:
		if !lists {
			return c
		}
		c = reflect.MakeSlice(v.Type(), v.Len()+2, v.Len()+2)
		for i := range v.Len() {
			c.Index(i).Set(roomyValue(v.Index(i), true))
		}
		for i := range min(v.Len(), 2) {
			c.Index(v.Len() + i).Set(roomyValue(v.Index(i), false))
		}
		c = c.Slice(0, v.Len())
	case reflect.Struct:
		for i := range v.NumField() {
			c.Field(i).Set(roomyValue(v.Field(i), lists))
		}
	case reflect.String:
		c.SetString(strings.Clone(v.String()))
	default:
		c.Set(v)
	}
	return c
}

// whole tells all of something, what lies behind its lists too.
func whole(s []byte, v reflect.Value) []byte {
	switch v.Kind() {
	case reflect.Slice:
		s = fmt.Append(s, v.Len(), "[")
		for i := range v.Cap() {
			s = whole(s, v.Slice(0, v.Cap()).Index(i))
		}
		return append(s, ']')
	case reflect.Struct:
		for i := range v.NumField() {
			s = whole(s, v.Field(i))
		}
		return s
	}
	return fmt.Append(s, v.Interface(), " ")
}

// R4, R5: a linked graph stays as it was, what lies behind its lists too, and that plays no part; what is answered is the same each time, and shares no memory with it, with another answer, or with itself.
func TestMemory(t *testing.T) {
	t.Parallel()
	for _, made := range made(t, 150) {
		l := roomy(made.linked)
		before := string(whole(nil, reflect.ValueOf(l)))
		script, origins := Bundle(made.linked)
		order := Order(made.linked)
		one, from := Bundle(l)
		two, again := Bundle(l)
		first, second := Order(l), Order(l)
		if !tree.Same(one, script) || !tree.Same(two, script) || !slices.Equal(from, origins) || !slices.Equal(again, origins) || !slices.Equal(first, order) || !slices.Equal(second, order) {
			t.Fatalf("%q: another answer", made.sources)
		}
		if !apart(piecesOf(l, one, two, from, again, first, second)) {
			t.Fatalf("%q: shared memory", made.sources)
		}
		runtime.KeepAlive([]any{l, one, two, from, again, first, second})
		if string(whole(nil, reflect.ValueOf(l))) != before {
			t.Fatalf("%q: what was handed in is changed", made.sources)
		}
	}
}

// R4: what is done to a bundle, and behind its lists, shows in no other; nor does what is done to the modules show in a bundle.
func TestNothingKept(t *testing.T) {
	sources := of("import * as n from './b'; let a = [n.x, n, [n.m.x]]; print(a);", "export let x = 1; export * as m from './b';")
	s := sample{sources, "namespace $1 { m = $1; x = x$1; } let x$1 = 1; let a$0 = [x$1, $1, [x$1]]; print(a$0);", "1.* 1.0 0.1 0.2"}
	l := linked(t, sources...)
	one, origins := Bundle(l)
	order := Order(l)
	var spoil func(n *api.Node)
	spoil = func(n *api.Node) {
		kids := n.Kids[:cap(n.Kids)]
		for i := range kids {
			spoil(&kids[i])
		}
		n.Kind, n.Text, n.N = api.Null, "over", 7
	}
	spoil(&one)
	clear(origins[:cap(origins)])
	clear(order[:cap(order)])
	s.holdOf(t, l)
	if got := Order(l); !slices.Equal(got, []int{1, 0}) {
		t.Error(got)
	}
	two, from := Bundle(l)
	text := fmt.Sprint(two, from)
	clear(l.Graph.Mods[0].Tree.Kids[1].Kids)
	clear(l.Graph.Mods[0].Tree.Kids)
	clear(l.Scopes[0].Uses)
	clear(l.Entries[1].Own)
	clear(l.Graph.Mods)
	if fmt.Sprint(two, from) != text {
		t.Error(two, from)
	}
	s.hold(t)
}

// R3: lists that are empty may be nil or not.
func TestEmptyLists(t *testing.T) {
	sources := of("import * as n from './b'; class C { constructor() { n; } m() { } } [n.x(), { }, new C(), () => { }];", "export let x = 1;")
	l := linked(t, sources...)
	var fill func(v reflect.Value)
	fill = func(v reflect.Value) {
		switch v.Kind() {
		case reflect.Slice:
			if v.IsNil() {
				v.Set(reflect.MakeSlice(v.Type(), 0, 0))
			}
			for i := range v.Len() {
				fill(v.Index(i))
			}
		case reflect.Struct:
			for i := range v.NumField() {
				fill(v.Field(i))
			}
		}
	}
	fill(reflect.ValueOf(&l).Elem())
	sample{sources, "namespace $1 { x = x$1; } let x$1 = 1; class C$0 { constructor() { $1; } m() { } } [x$1(), { }, new C$0(), () => { }];", "1.* 1.0 0.1 0.2"}.holdOf(t, l)
}

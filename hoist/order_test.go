package hoist

import (
	"slices"
	"strconv"
	"strings"
	"testing"

	"gusset/api"
)

// walked is the order of evaluation, by the modules' requests: each module behind those that it asks for, unless they were met ahead.
func walked(l api.Linked) []int {
	var out []int
	met := map[int]int{}
	var walk func(mod int)
	walk = func(mod int) {
		if met[mod]++; met[mod] > 1 {
			return
		}
		for _, r := range l.Graph.Mods[mod].Requests {
			if !r.Type {
				walk(r.Target)
			}
		}
		out = append(out, mod)
	}
	walk(0)
	return out
}

// 22.1: modules that are evaluated, in their order.
func TestOrder(t *testing.T) {
	for _, c := range []struct {
		sources []string
		want    []int
	}{
		{of(""), []int{0}},
		{of("import './b'; import './c';", "", ""), []int{1, 2, 0}},
		{of("import './b'; import './c';", "import './c';", ""), []int{2, 1, 0}},
		{of("import './c'; import './b';", "import './c';", ""), []int{1, 2, 0}},
		// In a circle the one that was met first waits for the others.
		{of("import './b';", "import './c';", "import './a'; import './b';"), []int{2, 1, 0}},
		{of("import './a';"), []int{0}},
		{of("import './b'; import './c';", "import './a';", "import './b';"), []int{1, 2, 0}},
		// By each kind of request; where none has a binding, too.
		{of("import * as n from './b'; import d from './c'; import { } from './d';", "", "export default 1;", ""), []int{1, 2, 3, 0}},
		{of("export * from './b'; export * as n from './c'; export { x } from './d';", "", "", "export let x = 1;"), []int{1, 2, 3, 0}},
		// Of types alone: not for that.
		{of("import type { T } from './b';", "export type T = number; print(1);"), []int{0}},
		{of("export type { T } from './b'; import './c';", "export type T = number;", ""), []int{2, 0}},
		{of("import type { T } from './b'; import { U } from './b';", "export type T = number; export type U = number;"), []int{1, 0}},
		{of("import type { T } from './b'; import './c';", "import './d'; export type T = number;", "import './b';", ""), []int{2, 1, 3, 0}},
		{of("import type { T } from './b';", "import './c'; export type T = number;", ""), []int{0}},
	} {
		l := linked(t, c.sources...)
		if got := Order(l); !slices.Equal(got, c.want) || !slices.Equal(got, walked(l)) {
			t.Errorf("%q: %v, want %v", c.sources, got, c.want)
		}
	}
}

// 22.1: modules that are made by chance; the items of a bundle stand in this order.
func TestOrderMade(t *testing.T) {
	t.Parallel()
	circles, left := 0, 0
	for _, made := range made(t, 1500) {
		l := made.linked
		got := Order(l)
		if want := walked(l); !slices.Equal(got, want) {
			t.Fatalf("%q: %v, want %v", made.sources, got, want)
		}
		if len(got) < len(l.Graph.Mods) {
			left++
		}
		for at, mod := range got {
			for _, r := range l.Graph.Mods[mod].Requests {
				if !r.Type && slices.Index(got, r.Target) > at {
					circles++
				}
			}
		}
	}
	if circles < 500 || left < 50 {
		t.Error(circles, left)
	}
}

// 22.1, R7: graphs that lead nowhere have no order; the numbers of others are as they come.
func TestOrderOfOthers(t *testing.T) {
	mods := func(rows ...string) api.Linked {
		var l api.Linked
		for _, row := range rows {
			var m api.Mod
			for _, target := range strings.Fields(row) {
				n, _ := strconv.Atoi(target)
				m.Requests = append(m.Requests, api.Request{Target: n})
			}
			l.Graph.Mods = append(l.Graph.Mods, m)
		}
		return l
	}
	for _, c := range []struct {
		l    api.Linked
		want []int
	}{
		{mods(), nil}, {mods("7"), nil}, {mods("-1"), nil}, {mods("", "9"), nil},
		{mods("2 1", "", "1"), []int{1, 2, 0}}, {mods("", "0"), []int{0}},
	} {
		if got := Order(c.l); !slices.Equal(got, c.want) {
			t.Errorf("%v: %v, want %v", c.l, got, c.want)
		}
	}
}

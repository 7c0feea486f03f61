package order

import (
	"fmt"
	"math"
	"slices"
	"testing"

	"gusset/api"
	"gusset/graph"
	"gusset/vfs"
)

// A sample is edges with their parts, and their orders from each place.
type sample struct {
	edges  [][]int
	parts  string
	orders []string
}

var samples = []sample{
	{nil, "[]", nil},
	{[][]int{}, "[]", nil},
	{[][]int{nil}, "[[0]]", []string{"[0]"}},
	{[][]int{{0}}, "[[0]]", []string{"[0]"}},
	{[][]int{{0, 0, 0}}, "[[0]]", []string{"[0]"}},
	{[][]int{{}, nil}, "[[0] [1]]", []string{"[0]", "[1]"}},
	{[][]int{{1}, {}}, "[[0] [1]]", []string{"[1 0]", "[1]"}},
	{[][]int{{1}, {0}}, "[[0 1]]", []string{"[1 0]", "[0 1]"}},
	{[][]int{{0, 1, 1}, {1, 0}}, "[[0 1]]", []string{"[1 0]", "[0 1]"}},
	{[][]int{{1, 2}, {2}, {1}, {}}, "[[0] [1 2] [3]]", []string{"[2 1 0]", "[2 1]", "[1 2]", "[3]"}}, // the chapter's
	// The order of the edges tells, not that of the numbers.
	{[][]int{{2, 1}, {}, {}}, "[[0] [1] [2]]", []string{"[2 1 0]", "[1]", "[2]"}},
	{[][]int{{1, 2}, {}, {}}, "[[0] [1] [2]]", []string{"[1 2 0]", "[1]", "[2]"}},
	// 2 was entered by way of 1, ahead of the edge of 0 that leads to it.
	{[][]int{{1, 2}, {2}, {}}, "[[0] [1] [2]]", []string{"[2 1 0]", "[2 1]", "[2]"}},
	{[][]int{{2, 1}, {2}, {}}, "[[0] [1] [2]]", []string{"[2 1 0]", "[2 1]", "[2]"}},
	// 3 is told ahead of 1 and 2, which both lead to it.
	{[][]int{{1, 2}, {3}, {3}, {}}, "[[0] [1] [2] [3]]", []string{"[3 1 2 0]", "[3 1]", "[3 2]", "[3]"}},
	// A part by its least place, though another one is told ahead.
	{[][]int{{3}, {2}, {1}, {0}}, "[[0 3] [1 2]]", []string{"[3 0]", "[2 1]", "[1 2]", "[0 3]"}},
	{[][]int{{}, {3}, {0}, {1}}, "[[0] [1 3] [2]]", []string{"[0]", "[3 1]", "[0 2]", "[1 3]"}},
	// Two circles with a place in common are one part; two with an edge between are two.
	{[][]int{{1}, {0, 2}, {1}}, "[[0 1 2]]", []string{"[2 1 0]", "[0 2 1]", "[0 1 2]"}},
	{[][]int{{1}, {0, 2}, {3}, {2}}, "[[0 1] [2 3]]", []string{"[3 2 1 0]", "[0 3 2 1]", "[3 2]", "[2 3]"}},
	{[][]int{{1}, {0}, {3, 0}, {2}}, "[[0 1] [2 3]]", []string{"[1 0]", "[0 1]", "[3 1 0 2]", "[1 0 2 3]"}},
}

// 11.1, 11.2, 11.3: the chapter's example, and the edges of its words.
func TestSamples(t *testing.T) {
	for _, s := range samples {
		if err := Check(s.edges); err != api.OK {
			t.Errorf("Check(%v): %d", s.edges, err)
		}
		if got := fmt.Sprint(Parts(s.edges)); got != s.parts {
			t.Errorf("Parts(%v): %s, want %s", s.edges, got, s.parts)
		}
		for root, want := range s.orders {
			if got := fmt.Sprint(Order(s.edges, root)); got != want {
				t.Errorf("Order(%v, %d): %s, want %s", s.edges, root, got, want)
			}
		}
	}
}

// far are numbers that are no places of n ones.
func far(n int) []int {
	return []int{n, -1, n + 1, 1 << 31, 1 << 32, -1 << 31, -1 << 32, math.MaxInt, math.MinInt}
}

// 11.3: a root that is no place leads to nothing.
func TestRoots(t *testing.T) {
	for _, s := range samples {
		for _, root := range far(len(s.edges)) {
			if got := Order(s.edges, root); len(got) > 0 {
				t.Errorf("Order(%v, %d): %v", s.edges, root, got)
			}
		}
	}
}

// wrong holds edges that lead to no place: nothing is answered of them, from whatever root.
func wrong(t *testing.T, edges [][]int) {
	t.Helper()
	if err := Check(edges); err != api.ErrGraph {
		t.Errorf("Check(%v): %d", edges, err)
	}
	if got := Parts(edges); len(got) > 0 {
		t.Errorf("Parts(%v): %v", edges, got)
	}
	for _, root := range append(far(len(edges)), 0, 1, 2, 3) {
		if got := Order(edges, root); len(got) > 0 {
			t.Errorf("Order(%v, %d): %v", edges, root, got)
		}
	}
}

// 11.1: one edge that leads to no place, wherever it stands, is an error of the whole; also where root does not lead to it.
func TestWrong(t *testing.T) {
	wrong(t, [][]int{{7}})
	for _, s := range samples {
		for place := range s.edges {
			for _, to := range far(len(s.edges)) {
				for at := range len(s.edges[place]) + 1 {
					edges := slices.Clone(s.edges)
					edges[place] = slices.Insert(slices.Clone(edges[place]), at, to)
					wrong(t, edges)
				}
			}
		}
	}
}

// mod is a module with the targets of its requests, those below 0 of types alone: -1 is 0, -2 is 1, ..
func mod(targets ...int) api.Mod {
	var m api.Mod
	for i, to := range targets {
		r := api.Request{Text: "./x", Item: i, Target: to}
		if to < 0 {
			r.Type, r.Target = true, -1-to
		}
		m.Requests = append(m.Requests, r)
	}
	return m
}

// 11.4: the targets in the order of the requests, as often as they are asked for; those of types alone only if they are wanted.
func TestEdges(t *testing.T) {
	for _, c := range []struct {
		mods       []api.Mod
		all, alone string
	}{
		{nil, "[]", "[]"},
		{[]api.Mod{{}}, "[[]]", "[[]]"},
		{[]api.Mod{mod(-1)}, "[[0]]", "[[]]"},
		{[]api.Mod{mod(-2, 0), mod()}, "[[1 0] []]", "[[0] []]"},
		{[]api.Mod{mod(1, 2, 1, 0), mod(0, -1, 0), mod(-2)}, "[[1 2 1 0] [0 0 0] [1]]", "[[1 2 1 0] [0 0] []]"},
		{[]api.Mod{mod(2, -2), mod(-3, 2), mod(-1, -2, -3)}, "[[2 1] [2 2] [0 1 2]]", "[[2] [2] []]"},
	} {
		g := api.Graph{Mods: c.mods}
		if got := fmt.Sprint(Edges(g, true)); got != c.all {
			t.Errorf("Edges(%v, true): %s, want %s", g, got, c.all)
		}
		if got := fmt.Sprint(Edges(g, false)); got != c.alone {
			t.Errorf("Edges(%v, false): %s, want %s", g, got, c.alone)
		}
	}
}

// 11.4, 11.3: of modules that were loaded; the order is that in which they are evaluated.
func TestLoaded(t *testing.T) {
	files := vfs.New()
	for _, f := range []api.File{
		{Path: "/a.ts", Bytes: "import type { T } from './t'; print(1); import './b'; export * from './c';"},
		{Path: "/b.ts", Bytes: "import './c'; import './a'; import './c';"},
		{Path: "/c.ts", Bytes: "import './b'; export type { T } from './t';"},
		{Path: "/t.ts", Bytes: "export type T = number;"},
	} {
		files.Write(f.Path, f.Bytes)
	}
	g, _, _, err := graph.Load(files, "/a")
	all, alone := Edges(g, true), Edges(g, false)
	if err != api.OK || Check(all) != api.OK || Check(alone) != api.OK {
		t.Fatal(err, all, alone)
	}
	if got := fmt.Sprint(all, alone); got != "[[1 2 3] [] [3 0 3] [2 1]] [[2 3] [] [3 0 3] [2]]" {
		t.Error(got)
	}
	if got := fmt.Sprint(Parts(alone), Order(alone, 0), Order(all, 0)); got != "[[0 2 3] [1]] [3 2 0] [1 3 2 0]" {
		t.Error(got)
	}
}

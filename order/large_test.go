package order

import (
	"slices"
	"testing"

	"gusset/api"
)

const many = 3_000_000

// chain leads from each place to the next one, and, if it is closed, from the last to the first.
func chain(n int, closed bool) [][]int {
	edges := make([][]int, n)
	for i := range n - 1 {
		edges[i] = []int{i + 1}
	}
	if closed {
		edges[n-1] = []int{0}
	}
	return edges
}

// rising are the places from one to another.
func rising(from, to int) []int {
	l := make([]int, 0, to-from)
	for i := from; i < to; i++ {
		l = append(l, i)
	}
	return l
}

// R1: a way of very many places ends, and is told from its end on.
func TestLongWay(t *testing.T) {
	edges := chain(many, false)
	if Check(edges) != api.OK {
		t.Fatal(Check(edges))
	}
	want := rising(1, many)
	slices.Reverse(want)
	if got := Order(edges, 1); !slices.Equal(got, want) {
		t.Error(len(got), "places")
	}
	parts := Parts(edges)
	if len(parts) != many {
		t.Fatal(len(parts), "parts")
	}
	for i, p := range parts {
		if len(p) != 1 || p[0] != i {
			t.Fatal(i, p)
		}
	}
}

// R1: a circle of very many places is one part.
func TestLongCircle(t *testing.T) {
	edges := chain(many, true)
	want := rising(0, many)
	if got := Parts(edges); len(got) != 1 || !slices.Equal(got[0], want) {
		t.Error(len(got), "parts")
	}
	want = slices.Concat(want[2:], want[:2])
	slices.Reverse(want)
	if got := Order(edges, 2); !slices.Equal(got, want) {
		t.Error(len(got), "places")
	}
}

// R1: very many edges of one place, and to one place, are each looked at once.
func TestManyEdges(t *testing.T) {
	edges := make([][]int, many)
	edges[0] = rising(0, many)
	for i := 1; i < many; i++ {
		edges[i] = edges[0][:1]
	}
	want := append(rising(1, many), 0)
	if got := Order(edges, 0); !slices.Equal(got, want) {
		t.Error(len(got), "places")
	}
	if got := Parts(edges); len(got) != 1 || !slices.Equal(got[0], edges[0]) {
		t.Error(len(got), "parts")
	}
	// Each place leads to all: what was entered is looked at again from each, but not walked.
	dense := make([][]int, 2000)
	for i := range dense {
		dense[i] = edges[0][:2000]
	}
	if got := Order(dense, 0); len(got) != 2000 || got[0] != 1999 || got[1999] != 0 {
		t.Error(len(got), "places")
	}
	if got := Parts(dense); len(got) != 1 || len(got[0]) != 2000 {
		t.Error(len(got), "parts")
	}
}

package order

import (
	"fmt"
	"math/rand"
	"slices"
	"testing"

	"gusset/api"
)

// reach tells of each two places whether the second can be reached from the first: by itself, or by way of a third.
func reach(edges [][]int) [][]bool {
	n := len(edges)
	can := make([][]bool, n)
	for i, row := range edges {
		can[i] = make([]bool, n)
		can[i][i] = true
		for _, to := range row {
			can[i][to] = true
		}
	}
	for by := range n {
		for from := range n {
			for to := range n {
				can[from][to] = can[from][to] || can[from][by] && can[by][to]
			}
		}
	}
	return can
}

// wantedParts takes each place with all that it reaches and that reach it, unless it was taken with an earlier one.
func wantedParts(can [][]bool) [][]int {
	parts := [][]int{}
	taken := make([]bool, len(can))
	for i := range can {
		if taken[i] {
			continue
		}
		var part []int
		for j := range can {
			if can[i][j] && can[j][i] {
				part = append(part, j)
				taken[j] = true
			}
		}
		parts = append(parts, part)
	}
	return parts
}

// wantedOrder is 11.3's walk, word for word; entered tells of each place how many were entered ahead of it.
func wantedOrder(edges [][]int, root int) (told []int, entered map[int]int) {
	entered = map[int]int{}
	var walk func(int)
	walk = func(at int) {
		entered[at] = len(entered)
		for _, to := range edges[at] {
			if _, was := entered[to]; !was {
				walk(to)
			}
		}
		told = append(told, at)
	}
	walk(root)
	return told, entered
}

// held holds Check, Parts and Order from each place against what is wanted of edges.
func held(t *testing.T, edges [][]int) {
	t.Helper()
	if err := Check(edges); err != api.OK {
		t.Fatalf("Check(%v): %d", edges, err)
	}
	can := reach(edges)
	parts := wantedParts(can)
	if got := Parts(edges); !slices.EqualFunc(got, parts, slices.Equal) {
		t.Fatalf("Parts(%v): %v, want %v", edges, got, parts)
	}
	for root := range edges {
		want, entered := wantedOrder(edges, root)
		got := Order(edges, root)
		if !slices.Equal(got, want) {
			t.Fatalf("Order(%v, %d): %v, want %v", edges, root, got, want)
		}
		if fault := follows(edges, can, root, got, entered); fault != "" {
			t.Fatalf("Order(%v, %d): %v: %s", edges, root, got, fault)
		}
	}
}

// follows is 11.5: what is wrong with an order, by what can be reached alone, or "".
func follows(edges [][]int, can [][]bool, root int, told []int, entered map[int]int) string {
	stands := map[int]int{}
	for i, place := range told {
		if _, twice := stands[place]; twice {
			return fmt.Sprint(place, " stands twice")
		}
		stands[place] = i
	}
	for place := range edges {
		if _, is := stands[place]; is != can[root][place] {
			return fmt.Sprint(place, " can be reached: ", can[root][place])
		}
	}
	for _, place := range told {
		for _, to := range edges[place] {
			ahead := can[to][place] && entered[to] <= entered[place]
			if !ahead && stands[to] > stands[place] {
				return fmt.Sprint(place, " stands ahead of ", to)
			}
		}
	}
	return ""
}

// rows are all lists of up to most of n places.
func rows(n, most int) [][]int {
	all := [][]int{{}}
	for from := 0; most > 0; most-- {
		to := len(all)
		for _, row := range all[from:to] {
			for place := range n {
				all = append(all, append(slices.Clone(row), place))
			}
		}
		from = to
	}
	return all
}

// 11.2, 11.3, 11.5: all edges of up to three places with up to three edges each, and of four with up to two.
func TestSmall(t *testing.T) {
	count := 0
	for _, c := range []struct{ places, most int }{{0, 3}, {1, 3}, {2, 3}, {3, 3}, {4, 2}} {
		choices := rows(c.places, c.most)
		edges := make([][]int, c.places)
		var fill func(int)
		fill = func(at int) {
			if at == c.places {
				held(t, edges)
				count++
				return
			}
			for _, row := range choices {
				edges[at] = row
				fill(at + 1)
			}
		}
		fill(0)
	}
	if count != 1+4+15*15+40*40*40+21*21*21*21 {
		t.Error(count, "edges")
	}
}

// made are edges by chance, the same of the same number: few or many of a place, near it or anywhere, as much back as forth or less.
func made(seed int64) [][]int {
	r := rand.New(rand.NewSource(seed))
	n, most, near, back := 1+r.Intn(24), 1+r.Intn(8), 1+r.Intn(24), 1+r.Intn(3)
	edges := make([][]int, n)
	names := r.Perm(n)
	for i := range n {
		for range r.Intn(most + 1) {
			to := i + r.Intn(near+1) - r.Intn(near+1)/back
			if to >= 0 && to < n {
				edges[names[i]] = append(edges[names[i]], names[to])
			}
		}
	}
	return edges
}

// 11.2, 11.3, 11.5: made edges; parts of many sizes are met, and many at once.
func TestMade(t *testing.T) {
	sizes, counts := map[int]int{}, map[int]int{}
	for seed := range int64(20000) {
		edges := made(seed)
		held(t, edges)
		parts := Parts(edges)
		counts[len(parts)]++
		for _, p := range parts {
			sizes[len(p)]++
		}
	}
	for n := 1; n < 16; n++ {
		if sizes[n] < 50 || counts[n] < 50 {
			t.Errorf("only %d parts of %d places, %d edges of %d parts", sizes[n], n, counts[n], n)
		}
	}
}

// 11.1: made edges of which one is made to lead to no place.
func TestMadeWrong(t *testing.T) {
	for seed := range int64(2000) {
		edges := made(seed)
		for i, row := range edges {
			for j, was := range row {
				to := far(len(edges))[(i+j)%2]
				row[j] = to
				if Check(edges) != api.ErrGraph || len(Parts(edges)) > 0 || len(Order(edges, 0)) > 0 || len(Order(edges, i)) > 0 {
					t.Fatalf("%v: %d, %v, %v", edges, Check(edges), Parts(edges), Order(edges, i))
				}
				row[j] = was
			}
		}
	}
}

// 11.4: made modules; each one's edges are held against its requests, one by one.
func TestMadeEdges(t *testing.T) {
	for seed := range int64(2000) {
		r := rand.New(rand.NewSource(seed))
		var g api.Graph
		var all, alone [][]int
		for range r.Intn(8) {
			var m api.Mod
			var most, least []int
			for i := range r.Intn(6) {
				one := api.Request{Text: "./x", Item: i, Type: r.Intn(2) == 0, Target: r.Intn(8)}
				m.Requests = append(m.Requests, one)
				most = append(most, one.Target)
				if !one.Type {
					least = append(least, one.Target)
				}
			}
			g.Mods = append(g.Mods, m)
			all, alone = append(all, most), append(alone, least)
		}
		if got := Edges(g, true); !slices.EqualFunc(got, all, slices.Equal) {
			t.Fatalf("Edges(%v, true): %v, want %v", g, got, all)
		}
		if got := Edges(g, false); !slices.EqualFunc(got, alone, slices.Equal) {
			t.Fatalf("Edges(%v, false): %v, want %v", g, got, alone)
		}
	}
}

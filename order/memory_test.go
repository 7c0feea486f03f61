package order

import (
	"fmt"
	"slices"
	"testing"
	"unsafe"

	"gusset/api"
)

// A span is where a piece of memory begins and ends.
type span struct{ from, to uintptr }

// listSpan takes the spare room in.
func listSpan[T any](l []T) span {
	from := uintptr(unsafe.Pointer(unsafe.SliceData(l)))
	var one T
	return span{from, from + uintptr(cap(l))*unsafe.Sizeof(one)}
}

func rowSpans(rows [][]int) []span {
	l := []span{listSpan(rows)}
	for _, row := range rows {
		l = append(l, listSpan(row))
	}
	return l
}

// shared tells whether any two of some pieces have memory in common.
func shared(l []span) bool {
	l = slices.DeleteFunc(l, func(s span) bool { return s.from >= s.to })
	slices.SortFunc(l, func(a, b span) int {
		if a.from < b.from {
			return -1
		}
		return 1
	})
	for i := 1; i < len(l); i++ {
		if l[i].from < l[i-1].to {
			return true
		}
	}
	return false
}

// roomy are edges with room behind each list, and something in it.
func roomy(edges [][]int) [][]int {
	all := make([][]int, 0, len(edges)+2)
	for _, row := range edges {
		all = append(all, append(slices.Clone(row), 0, 77, 0)[:len(row)])
	}
	return append(all, []int{77}, []int{0})[:len(edges)]
}

// whole tells edges with what lies behind them.
func whole(edges [][]int) string {
	told := ""
	for _, row := range edges[:cap(edges)] {
		told += fmt.Sprint(len(row), row[:cap(row)])
	}
	return told
}

func overwrite(rows [][]int) {
	for i, row := range rows[:cap(rows)] {
		for j := range row[:cap(row)] {
			row[:cap(row)][j] = -9
		}
		rows[:cap(rows)][i] = nil
	}
}

// R4, R5: edges stay as they were; what is answered of them is the same each time, and shares no memory with them or with another answer.
func TestMemory(t *testing.T) {
	for seed := range int64(1000) {
		edges := roomy(made(seed))
		before, root := whole(edges), int(seed)%len(edges)
		parts, told := Parts(edges), Order(edges, root)
		want := fmt.Sprint(parts, told)
		parts2, told2 := Parts(edges), Order(edges, root)
		Check(edges)
		if whole(edges) != before {
			t.Fatalf("%s, then %s", before, whole(edges))
		}
		if got := fmt.Sprint(parts2, told2); got != want {
			t.Fatalf("%v: %s, then %s", edges, want, got)
		}
		if shared(slices.Concat(rowSpans(edges), rowSpans(parts), rowSpans(parts2), []span{listSpan(told), listSpan(told2)})) {
			t.Fatalf("%v: memory is shared", edges)
		}
		overwrite(parts)
		overwrite([][]int{told})
		if got := fmt.Sprint(parts2, told2); got != want {
			t.Fatalf("%v: what is done to an answer shows: %s", edges, got)
		}
		if got := fmt.Sprint(Parts(edges), Order(edges, root)); got != want {
			t.Fatalf("%v: what is done to an answer shows: %s", edges, got)
		}
		overwrite(edges)
		if got := fmt.Sprint(parts2, told2); got != want {
			t.Fatalf("what is done to edges shows: %s, want %s", got, want)
		}
	}
}

// R4: a graph stays as it was; its edges share no memory with one another, with another answer, or with it.
func TestEdgesMemory(t *testing.T) {
	mods := []api.Mod{mod(1, 2, 1), mod(-1, 0, -3), mod(), mod(-2), mod(3), mod(7)}
	for i := range mods {
		mods[i].Requests = append(mods[i].Requests, api.Request{Target: 5}, api.Request{Target: 6})[:len(mods[i].Requests)]
	}
	g := api.Graph{Mods: mods[:5]}
	tell := func() string {
		told := fmt.Sprint(mods)
		for _, m := range mods {
			told += fmt.Sprint(m.Requests[:cap(m.Requests)])
		}
		return told
	}
	before := tell()
	spans := []span{listSpan(mods)}
	for _, m := range mods {
		spans = append(spans, listSpan(m.Requests))
	}
	var last [][]int
	for _, types := range []bool{true, false, true} {
		last = Edges(g, types)
		spans = append(spans, rowSpans(last)...)
	}
	if tell() != before {
		t.Errorf("%s, then %s", before, tell())
	}
	if shared(spans) {
		t.Error("memory is shared")
	}
	for _, m := range mods {
		clear(m.Requests[:cap(m.Requests)])
	}
	if got := fmt.Sprint(last); got != "[[1 2 1] [0 0 2] [] [1] [3]]" {
		t.Error("what is done to a graph shows:", got)
	}
}

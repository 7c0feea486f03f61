package types

import (
	"math"
	"slices"
	"testing"

	"gusset/api"
)

// isCompare holds Compare of two types, both ways round, against what it must be.
func isCompare(t *testing.T, a, b api.Type, want int) {
	t.Helper()
	if got := Compare(a, b); got != want {
		t.Errorf("Compare(%s, %s): %d, want %d", told(a), told(b), got, want)
	}
	if got := Compare(b, a); got != -want {
		t.Errorf("Compare(%s, %s): %d, want %d", told(b), told(a), got, -want)
	}
}

// 14.2: rising types, each pair of which differs ahead in what the one behind says.
func TestCompareRising(t *testing.T) {
	names := func(l ...string) api.Type { return api.Type{Kind: 8, Names: l} }
	rising := []api.Type{
		// Kind, whatever else: numbers that may be no kinds, too.
		{Kind: math.MinInt, N: 9, Names: []string{"z"}}, {Kind: -1, List: []api.Type{{}}}, {}, {Kind: 1, N: 5}, {Kind: 2},
		// N, ahead of Names and List.
		{Kind: 7, N: math.MinInt, Names: []string{"z"}, List: []api.Type{null}}, {Kind: 7, N: -1, List: []api.Type{null, null}}, {Kind: 7},
		{Kind: 7, List: []api.Type{number}}, {Kind: 7, Names: []string{"a"}}, {Kind: 7, N: 1}, {Kind: 7, N: math.MaxInt},
		// How many Names, ahead of the Names; these ahead of List.
		{Kind: 8}, {Kind: 8, List: []api.Type{null, null}}, {Kind: 8, Names: []string{""}}, names("A"), {Kind: 8, Names: []string{"A"}, List: []api.Type{number}}, names("Aa"), names("Z"), names("a"), names("aa"), names("z"), names("ä"), names("\xff"),
		{Kind: 8, Names: []string{"a", "a"}, List: []api.Type{null}}, names("a", "b"), {Kind: 8, Names: []string{"a", "b"}, List: []api.Type{number}}, names("a", "c"), names("b", "a"), names("", "", ""),
		// How many in List, ahead of what is in it; then the types from the first on.
		{Kind: 9}, {Kind: 9, List: []api.Type{one(99)}}, {Kind: 9, List: []api.Type{number, number}}, {Kind: 9, List: []api.Type{number, text}}, {Kind: 9, List: []api.Type{text, number}},
		{Kind: 9, List: []api.Type{list(number), text}}, {Kind: 9, List: []api.Type{list(text), number}}, {Kind: 9, List: []api.Type{list(text), numbered(2, 1)}}, {Kind: 9, List: []api.Type{{}, {}, {}}},
		{Kind: 14}, {Kind: math.MaxInt, N: math.MinInt},
	}
	for i, a := range rising {
		isCompare(t, a, a, 0)
		for _, b := range rising[i+1:] {
			isCompare(t, a, b, -1)
			isCompare(t, list(fn(b, a)), list(fn(b, b)), -1)
			isCompare(t, fn(a, b), fn(b, a), -1)
			isCompare(t, fn(b), fn(a, a), -1)
		}
	}
}

// 14.2, R3: a list that is empty may be nil.
func TestCompareEmpty(t *testing.T) {
	for kind := -1; kind < 15; kind++ {
		a, b := one(kind), api.Type{Kind: kind, Names: []string{}, List: []api.Type{}}
		isCompare(t, a, b, 0)
		isCompare(t, list(a), list(b), 0)
	}
}

// few are types of which many differ in one thing alone; some may not be.
func few() []api.Type {
	var l []api.Type
	for _, s := range samples() {
		l = append(l, s.t)
	}
	for seed := range int64(150) {
		c := by(seed)
		t := c.may(3)
		l = append(l, t)
		c.spoil(&t)
		l = append(l, t)
	}
	return l
}

// 14.6: of any three types the order holds together; it is 0 just of the same.
func TestCompareIsAnOrder(t *testing.T) {
	l := few()
	order := make([][]int, len(l))
	for i, a := range l {
		for j, b := range l {
			c := Compare(a, b)
			if c != heldAgainst(a, b) || c != -Compare(b, a) || (c == 0) != (told(a) == told(b)) {
				t.Fatalf("Compare(%s, %s), %d and %d: %d", told(a), told(b), i, j, c)
			}
			order[i] = append(order[i], c)
		}
	}
	for a := range l {
		for b := range l {
			for c := range l {
				if order[a][b] <= 0 && order[b][c] <= 0 && order[a][c] != min(order[a][b], order[b][c]) {
					t.Fatalf("%s, %s, %s: %d, %d, %d", told(l[a]), told(l[b]), told(l[c]), order[a][b], order[b][c], order[a][c])
				}
			}
		}
	}
}

// 14.2, 14.6: two types that were made by chance, the one often out of the other.
func TestCompareMade(t *testing.T) {
	differ := 0
	for seed := range int64(20000) {
		c := by(seed)
		a := c.any(5)
		b := a
		if seed%4 == 0 {
			b = c.any(5)
		}
		for range seed % 3 {
			c.spoil(&b)
		}
		want := heldAgainst(a, b)
		isCompare(t, a, b, want)
		if want != 0 {
			differ++
		}
		if (want == 0) != (told(a) == told(b)) {
			t.Fatalf("%s and %s", told(a), told(b))
		}
	}
	if differ < 8000 || differ > 19000 {
		t.Error(differ, "differ")
	}
}

// 14.6: types are sorted alike, whatever order they came in.
func TestSorted(t *testing.T) {
	l := few()
	slices.SortStableFunc(l, Compare)
	for seed := range int64(20) {
		m := slices.Clone(l)
		by(seed).Shuffle(len(m), func(i, j int) { m[i], m[j] = m[j], m[i] })
		slices.SortFunc(m, Compare)
		for i := range l {
			if told(l[i]) != told(m[i]) {
				t.Fatalf("%s and %s", told(l[i]), told(m[i]))
			}
		}
	}
}

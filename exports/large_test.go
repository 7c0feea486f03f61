package exports

import (
	"fmt"
	"slices"
	"testing"

	"gusset/api"
)

const many = 300_000

func own(names ...string) []api.Entry {
	var l []api.Entry
	for _, n := range names {
		l = append(l, api.Entry{Here: n, There: n, Mod: -1})
	}
	return l
}

func stars(mods ...int) []api.Entry {
	var l []api.Entry
	for _, m := range mods {
		l = append(l, api.Entry{Mod: m})
	}
	return l
}

// is holds what a name leads to.
func is(t *testing.T, l []api.Entries, mod int, name string, want api.Found) {
	t.Helper()
	if got := Resolve(l, mod, name); got != want {
		t.Errorf("%s of %d of %d modules leads to %v, want %v", name, mod, len(l), got, want)
	}
}

// R1, 12.4: very long ways of stars, that end or go round.
func TestManyStars(t *testing.T) {
	l := make([]api.Entries, many)
	for i := range many - 1 {
		l[i].Stars = stars(i + 1)
	}
	l[many-1].Own = own("x")
	one := api.Found{Kind: api.FoundOne, Mod: many - 1, Name: "x"}
	is(t, l, 0, "x", one)
	is(t, l, 0, "y", api.Found{})
	if names := Names(l, 0); !slices.Equal(names, []string{"x"}) {
		t.Error(names)
	}
	l[many-1].Stars = stars(0)
	is(t, l, 0, "x", one)
	is(t, l, 5, "y", api.Found{Kind: api.FoundCircular})
	is(t, l, 5, "default", api.Found{})
}

// R1, 12.4: very long ways of others, that end or go round, of types alone by the last one.
func TestManyOthers(t *testing.T) {
	l := make([]api.Entries, many)
	for i := range many - 1 {
		l[i].Others = []api.Entry{{Here: "x", There: "x", Mod: i + 1, Type: i == many-2}}
	}
	is(t, l, 0, "x", api.Found{})
	l[many-1].Own = own("x")
	is(t, l, 0, "x", api.Found{Kind: api.FoundOne, Mod: many - 1, Name: "x", Type: true})
	l[many-1] = api.Entries{Others: []api.Entry{{Here: "x", There: "x", Mod: 1}}}
	is(t, l, 0, "x", api.Found{Kind: api.FoundCircular})
	if names := Names(l, 0); len(names) > 0 {
		t.Error(names)
	}
}

// R1, 12.4: very many names of one module, each by the next one; it is not looked through for each.
func TestManyNames(t *testing.T) {
	var e api.Entries
	for i := range many {
		e.Others = append(e.Others, api.Entry{Here: fmt.Sprint("x", i), There: fmt.Sprint("x", i+1)})
	}
	is(t, []api.Entries{e}, 0, "x0", api.Found{})
	e.Own = own(fmt.Sprint("x", many))
	is(t, []api.Entries{e}, 0, "x0", api.Found{Kind: api.FoundOne, Name: fmt.Sprint("x", many)})
	e.Own[0].There = "y"
	e.Others[many-1].There = "x3"
	is(t, []api.Entries{e}, 0, "x0", api.Found{Kind: api.FoundCircular})
}

// R1, 12.4: very many stars of one module, to one, and to as many; the last one makes it ambiguous.
func TestManyWide(t *testing.T) {
	l := make([]api.Entries, many)
	l[1].Own = own("x")
	for i := range many - 1 {
		l[0].Stars = append(l[0].Stars, api.Entry{Mod: 1})
		if i > 1 {
			l[i].Stars = stars(1)
		}
	}
	one := api.Found{Kind: api.FoundOne, Mod: 1, Name: "x"}
	is(t, l, 0, "x", one)
	for i := range l[0].Stars {
		l[0].Stars[i].Mod = i + 1
	}
	is(t, l, 0, "x", one)
	l[many-1].Own = own("x")
	is(t, l, 0, "x", api.Found{Kind: api.FoundAmbiguous})
}

// 12.4: each pair is asked once, though there are more ways to it than could be gone.
func TestManyWays(t *testing.T) {
	const rows = 2000
	l := make([]api.Entries, 2*rows+1)
	for i := range 2 * rows {
		next := i/2*2 + 2
		l[i].Stars = stars(next, min(next+1, 2*rows), next)
	}
	is(t, l, 0, "x", api.Found{})
	l[2*rows].Own = own("x")
	is(t, l, 0, "x", api.Found{Kind: api.FoundOne, Mod: 2 * rows, Name: "x"})
	// All lead to all.
	all := make([]api.Entries, 1000)
	for i := range all {
		for j := range all {
			all[i].Stars = append(all[i].Stars, api.Entry{Mod: j})
		}
	}
	is(t, all, 7, "x", api.Found{Kind: api.FoundCircular})
	all[999].Own = own("x", "default")
	is(t, all, 7, "x", api.Found{Kind: api.FoundOne, Mod: 999, Name: "x"})
	if names := Names(all, 7); !slices.Equal(names, []string{"x"}) {
		t.Error(names)
	}
}

// 12.3: as many modules as a build may have, with as many names as a file has room for.
func TestManyNamesOfStars(t *testing.T) {
	l := make([]api.Entries, api.MaxFiles)
	var want []string
	for i := range l {
		if i > 0 {
			l[0].Stars = append(l[0].Stars, api.Entry{Mod: i})
			l[i].Stars = stars(0, 1)
		}
		for j := range 1000 {
			l[i].Own = append(l[i].Own, own(fmt.Sprintf("n%d_%d", i, j))...)
			want = append(want, fmt.Sprintf("n%d_%d", i, j))
		}
		l[i].Own = append(l[i].Own, own(fmt.Sprint("twice", i/2))...)
	}
	// A module's own one stands ahead of that of the next.
	want = append(want, "twice0")
	slices.Sort(want)
	if got := Names(l, 0); !slices.Equal(got, want) {
		t.Error(len(got), "names, want", len(want))
	}
}

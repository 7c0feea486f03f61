package rename

import (
	"math"
	"math/rand"
	"testing"

	"gusset/api"
	"gusset/link"
	"gusset/module"
	"gusset/show"
	"gusset/tree"
)

// R1: whatever is handed in, the calls end; beside a false nothing is told.
func TestSpoilt(t *testing.T) {
	t.Parallel()
	images := 0
	var plain []api.Linked
	for seed := range int64(100) {
		_, l := made(t, seed, true)
		plain = append(plain, l)
	}
	for seed := range int64(3000) {
		l := roomy(plain[seed%100])
		rng := rand.New(rand.NewSource(seed))
		for range 1 + rng.Intn(4) {
			spoil(rng, &l)
		}
		for range 20 {
			mod, item := rng.Intn(len(l.Graph.Mods)+2)-1, rng.Intn(14)-1
			n, ok := Item(l, mod, item)
			there := mod >= 0 && mod < len(l.Graph.Mods) && item >= 0 && item < len(l.Graph.Mods[mod].Tree.Kids)
			if ok && !there || !ok && !tree.Same(n, api.Node{}) {
				t.Fatalf("seed %d: the item %d of %d: %t, %v", seed, item, mod, ok, n)
			}
			if types, _ := typesOf(api.Node{Kids: []api.Node{n}}); ok && types > 1 {
				t.Fatalf("seed %d: the item %d of %d has types: %v", seed, item, mod, n)
			}
			if ok {
				images++
			}
		}
	}
	if images < 10000 {
		t.Error(images)
	}
}

// some is one of a list; there is one at least.
func some[T any](rng *rand.Rand, l []T) *T {
	return &l[rng.Intn(len(l))]
}

// spoil changes something of what is handed in.
func spoil(rng *rand.Rand, l *api.Linked) {
	strange := []int{-2, -1, 0, 1, 7, 1000, math.MaxInt, math.MinInt}
	number := func() int { return *some(rng, strange) }
	mod := rng.Intn(len(l.Graph.Mods))
	switch rng.Intn(9) {
	case 0, 1, 2:
		spoilTree(rng, &l.Graph.Mods[mod].Tree, number)
	case 3:
		if mod < len(l.Scopes) && len(l.Scopes[mod].Uses) > 0 {
			u := some(rng, l.Scopes[mod].Uses)
			*u = api.Use{At: number(), Kind: rng.Intn(6) - 1, Decl: number(), Name: u.Name, Type: u.Type}
		}
	case 4:
		l.Scopes = l.Scopes[:rng.Intn(len(l.Scopes)+1)]
	case 5:
		l.Entries = l.Entries[:rng.Intn(len(l.Entries)+1)]
	case 6:
		l.Founds = l.Founds[:rng.Intn(len(l.Founds)+1)]
	case 7:
		for _, founds := range l.Founds {
			for i := range founds {
				founds[i].Mod, founds[i].Kind = number(), rng.Intn(7)-1
			}
		}
	case 8:
		// One stays, so that there is something to spoil again.
		l.Graph.Mods = l.Graph.Mods[:1+rng.Intn(len(l.Graph.Mods))]
	}
}

// spoilTree changes one tree within another.
func spoilTree(rng *rand.Rand, n *api.Node, number func() int) {
	for len(n.Kids) > 0 && rng.Intn(6) > 0 {
		n = some(rng, n.Kids)
	}
	switch rng.Intn(4) {
	case 0:
		n.Kids = n.Kids[:rng.Intn(len(n.Kids)+1)]
	case 1:
		n.Kind = rng.Intn(72) - 1
	case 2:
		n.Text, n.N = "$", number()
	case 3:
		n.Kids = append(n.Kids, api.Node{Kind: rng.Intn(72) - 1})
	}
}

// 21.2: where scripts are linked, their namespaces are tops as well.
func TestItemsOfScripts(t *testing.T) {
	n, _, err := module.Script("namespace n { a = x; b = n; c = print; } const x = n.a; class C { } { let $1 = n; new C(); }")
	if err != api.OK {
		t.Fatal(err)
	}
	l, _, _, err := link.Link(api.Graph{Mods: []api.Mod{{Path: "/a", Tree: n}}})
	if err != api.OK {
		t.Fatal(err)
	}
	for item, want := range []string{
		"namespace n$0 { a = x$0; b = n$0; c = print; }",
		"const x$0 = n$0.a;",
		"class C$0 { }",
		"{ let $1 = n$0; new C$0(); }",
		none,
	} {
		if want == none {
			hold(t, l, 0, item, none)
			continue
		}
		wanted, _, err := module.Script(want)
		if got, ok := Item(l, 0, item); err != api.OK || !ok || !tree.Same(got, wanted.Kids[0]) {
			t.Errorf("%s, want %s", show.Show(got), want)
		}
	}
}

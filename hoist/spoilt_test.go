package hoist

import (
	"math"
	"math/rand"
	"slices"
	"testing"

	"gusset/api"
	"gusset/shake"
)

// R1: whatever is handed in, the calls end; there are as many origins as items, and each is of an item or namespace that there is.
func TestSpoilt(t *testing.T) {
	t.Parallel()
	plain := made(t, 150)
	items, spaces := 0, 0
	for seed := range int64(3000) {
		rng := rand.New(rand.NewSource(seed))
		l := roomy(plain[rng.Intn(len(plain))].linked)
		for range 1 + rng.Intn(4) {
			spoil(rng, &l)
		}
		script, origins := Bundle(l)
		if script.Kind != api.Script || script.Text != "" || script.N != 0 || len(script.Kids) != len(origins) {
			t.Fatalf("seed %d: %d items of %s", seed, len(script.Kids), told(origins))
		}
		named := len(shake.Spaces(l))
		for i, o := range origins {
			if o.Mod < 0 || o.Mod >= len(l.Graph.Mods) || o.Item < -1 || o.Item >= len(l.Graph.Mods[o.Mod].Tree.Kids) || (i < named) != (o.Item == -1) {
				t.Fatalf("seed %d: %v of %s", seed, o, told(origins))
			}
		}
		items, spaces = items+len(origins)-named, spaces+named
		order := Order(l)
		for _, mod := range order {
			if mod < 0 || mod >= len(l.Graph.Mods) {
				t.Fatalf("seed %d: %v", seed, order)
			}
		}
		if slices.Sort(order); len(slices.Compact(slices.Clone(order))) != len(order) {
			t.Fatalf("seed %d: %v", seed, order)
		}
	}
	if items < 5000 || spaces < 500 {
		t.Error(items, spaces)
	}
}

// some is one of a list; there is one at least.
func some[T any](rng *rand.Rand, l []T) *T {
	return &l[rng.Intn(len(l))]
}

// spoil changes something of what is handed in.
func spoil(rng *rand.Rand, l *api.Linked) {
	strange := []int{-2, -1, 0, 1, 7, 1000, math.MaxInt, math.MinInt}
	number := func() int { return *some(rng, strange) }
	mod := rng.Intn(len(l.Graph.Mods))
	switch rng.Intn(11) {
	case 0, 1:
		spoilTree(rng, &l.Graph.Mods[mod].Tree, number)
	case 2:
		for i := range l.Graph.Mods[mod].Requests {
			l.Graph.Mods[mod].Requests[i] = api.Request{Text: "./none", Type: rng.Intn(2) == 0, Item: number(), Target: number()}
		}
	case 3:
		if mod < len(l.Scopes) && len(l.Scopes[mod].Uses) > 0 {
			u := some(rng, l.Scopes[mod].Uses)
			*u = api.Use{At: number(), Kind: rng.Intn(6) - 1, Decl: number(), Name: u.Name, Type: u.Type}
		}
	case 4:
		if mod < len(l.Scopes) && len(l.Scopes[mod].Tops) > 0 {
			top := some(rng, l.Scopes[mod].Tops)
			top.Item, top.Kind = number(), rng.Intn(72)-1
		}
	case 5:
		l.Scopes = l.Scopes[:rng.Intn(len(l.Scopes)+1)]
	case 6:
		l.Entries = l.Entries[:rng.Intn(len(l.Entries)+1)]
	case 7:
		spoilEntries(rng, l, number)
	case 8:
		l.Founds = l.Founds[:rng.Intn(len(l.Founds)+1)]
	case 9:
		for _, founds := range l.Founds {
			for i := range founds {
				founds[i].Mod, founds[i].Kind = number(), rng.Intn(7)-1
			}
		}
	case 10:
		// One stays, so that there is something to spoil again.
		l.Graph.Mods = l.Graph.Mods[:1+rng.Intn(len(l.Graph.Mods))]
	}
}

func spoilEntries(rng *rand.Rand, l *api.Linked, number func() int) {
	if len(l.Entries) == 0 {
		return
	}
	e := some(rng, l.Entries)
	for _, list := range [][]api.Entry{e.Imports, e.Own, e.Others, e.Stars} {
		if len(list) > 0 {
			one := some(rng, list)
			one.Mod, one.Item = number(), number()
			**some(rng, []*string{&one.Here, &one.There}) = *some(rng, []string{"*", "", "default", "a", "\xff"})
		}
	}
}

// spoilTree changes one tree within another.
func spoilTree(rng *rand.Rand, n *api.Node, number func() int) {
	for len(n.Kids) > 0 && rng.Intn(4) > 0 {
		n = some(rng, n.Kids)
	}
	switch rng.Intn(4) {
	case 0:
		n.Kids = n.Kids[:rng.Intn(len(n.Kids)+1)]
	case 1:
		n.Kind = rng.Intn(72) - 1
	case 2:
		n.Text, n.N = "$", number()
	case 3:
		n.Kids = append(n.Kids, api.Node{Kind: rng.Intn(72) - 1})
	}
}

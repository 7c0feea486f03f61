package pure

import (
	"math"
	"math/rand"
	"slices"
	"testing"

	"gusset/api"
)

// R1: whatever is handed in, the calls end, and what they answer is in order.
func TestSpoilt(t *testing.T) {
	t.Parallel()
	some := 0
	for seed := range int64(3000) {
		_, plain := made(t, seed%100)
		l := roomyLinked(plain)
		rng := rand.New(rand.NewSource(seed))
		for range 1 + rng.Intn(4) {
			spoil(rng, &l)
		}
		for range 20 {
			mod, item := rng.Intn(len(l.Graph.Mods)+2)-1, rng.Intn(12)-1
			got, values := Mentions(l, mod, item), Values(l, mod, item)
			if !slices.IsSortedFunc(got, inTurn) {
				t.Fatalf("%s is not in order", told(got))
			}
			if slices.ContainsFunc(got, func(f api.Found) bool { return f.Type }) {
				t.Fatalf("%s, not without Type", told(got))
			}
			if !slices.IsSorted(values) || len(values) > len(got) {
				t.Fatalf("%s, but the namespaces %v", told(got), values)
			}
			some += len(got)
		}
		for _, m := range l.Graph.Mods {
			for _, n := range m.Tree.Kids {
				Item(n)
				Expr(n)
			}
		}
	}
	if some < 1000 {
		t.Error(some)
	}
}

// inTurn is below 0 of two that may follow one another, and never 0: each stands once.
func inTurn(a, b api.Found) int {
	switch {
	case a.Kind != b.Kind:
		return a.Kind - b.Kind
	case a.Mod < b.Mod, a.Mod == b.Mod && a.Name < b.Name:
		return -1
	}
	return 1
}

// spoil changes something of what is handed in.
func spoil(rng *rand.Rand, l *api.Linked) {
	strange := []int{-1, 0, 1, 7, 1000, math.MaxInt, math.MinInt}
	number := func() int { return strange[rng.Intn(len(strange))] }
	mod := rng.Intn(len(l.Graph.Mods))
	switch rng.Intn(10) {
	case 0, 1, 2:
		spoilTree(rng, &l.Graph.Mods[mod].Tree, number)
	case 3:
		if mod < len(l.Scopes) && len(l.Scopes[mod].Uses) > 0 {
			u := &l.Scopes[mod].Uses[rng.Intn(len(l.Scopes[mod].Uses))]
			*u = api.Use{At: number(), Kind: rng.Intn(6) - 1, Decl: number(), Name: u.Name, Type: u.Type}
		}
	case 4:
		l.Scopes = l.Scopes[:rng.Intn(len(l.Scopes)+1)]
	case 5:
		l.Entries = l.Entries[:rng.Intn(len(l.Entries)+1)]
	case 6:
		l.Founds = l.Founds[:rng.Intn(len(l.Founds)+1)]
	case 7:
		for _, founds := range l.Founds {
			for i := range founds {
				founds[i].Mod = number()
			}
		}
	case 8:
		for _, founds := range l.Founds {
			for i := range founds {
				founds[i].Type = true
			}
		}
	case 9:
		// One stays, so that there is something to spoil again.
		l.Graph.Mods = l.Graph.Mods[:1+rng.Intn(len(l.Graph.Mods))]
	}
}

// spoilTree changes one tree within another.
func spoilTree(rng *rand.Rand, n *api.Node, number func() int) {
	for len(n.Kids) > 0 && rng.Intn(6) > 0 {
		n = &n.Kids[rng.Intn(len(n.Kids))]
	}
	switch rng.Intn(4) {
	case 0:
		n.Kids = n.Kids[:rng.Intn(len(n.Kids)+1)]
	case 1:
		n.Kind = rng.Intn(72) - 1
	case 2:
		n.Text, n.N = "$", number()
	case 3:
		n.Kids = append(n.Kids, api.Node{Kind: rng.Intn(72) - 1})
	}
}

package check

import (
	"math"
	"math/rand"
	"strings"
	"testing"

	"gusset/api"
	"gusset/link"
	"gusset/sign"
	"gusset/tree"
	"gusset/types"
)

// 18.1, 18.2, R1: whatever is handed in, the calls end and answer what they may.
func TestSpoilt(t *testing.T) {
	t.Parallel()
	ended := map[api.Errno]int{}
	for seed := range int64(1500) {
		l, s, _, ok := made(t, seed%150)
		if !ok {
			continue
		}
		rng := rand.New(rand.NewSource(seed))
		l, s = roomyLinked(l), roomySigns(s)
		for range 1 + rng.Intn(4) {
			spoil(rng, &l, &s)
		}
		mod, at, err := Check(l, s)
		ended[err]++
		if err == api.OK && (mod != 0 || at != 0) || err != api.OK && (mod < 0 || mod >= len(l.Graph.Mods) || at < 0) {
			t.Fatal(mod, at, err)
		}
		for range 5 {
			got, err := TypeOf(l, s, rng.Intn(4)-1, rng.Intn(300)-1)
			if (err != api.OK) != isZero(got) || err == api.OK && types.Check(got) != api.OK {
				t.Fatal(told(got), err)
			}
		}
	}
	if ended[api.OK] < 100 || ended[api.ErrType] < 100 {
		t.Error(ended)
	}
}

// spoil changes something of what is handed in.
func spoil(rng *rand.Rand, l *api.Linked, s *api.Signs) {
	strange := []int{-1, 0, 1, 7, 1000, math.MaxInt, math.MinInt}
	number := func() int { return strange[rng.Intn(len(strange))] }
	mod := rng.Intn(len(l.Graph.Mods))
	switch rng.Intn(9) {
	case 0, 1, 2:
		spoilTree(rng, &l.Graph.Mods[mod].Tree, number)
	case 3:
		if mod < len(l.Scopes) && len(l.Scopes[mod].Uses) > 0 {
			u := &l.Scopes[mod].Uses[rng.Intn(len(l.Scopes[mod].Uses))]
			*u = api.Use{At: u.At, Kind: rng.Intn(6) - 1, Decl: number(), Name: u.Name}
		}
	case 4:
		l.Scopes = l.Scopes[:rng.Intn(len(l.Scopes)+1)]
	case 5:
		l.Entries, l.Founds = l.Entries[:rng.Intn(len(l.Entries)+1)], l.Founds[:rng.Intn(len(l.Founds)+1)]
	case 6:
		s.Classes, s.Tops = s.Classes[:rng.Intn(len(s.Classes)+1)], s.Tops[:rng.Intn(len(s.Tops)+1)]
	case 7:
		if mod < len(s.Tops) && len(s.Tops[mod]) > 0 {
			s.Tops[mod][rng.Intn(len(s.Tops[mod]))].Type = api.Type{Kind: rng.Intn(15) - 1, N: number(), Names: []string{"b", "a"}[:rng.Intn(3)]}
		}
	case 8:
		for _, founds := range l.Founds {
			for i := range founds {
				founds[i].Mod = number()
			}
		}
	}
}

// spoilTree changes one tree within another.
func spoilTree(rng *rand.Rand, n *api.Node, number func() int) {
	for len(n.Kids) > 0 && rng.Intn(6) > 0 {
		n = &n.Kids[rng.Intn(len(n.Kids))]
	}
	switch rng.Intn(4) {
	case 0:
		n.Kids = n.Kids[:rng.Intn(len(n.Kids)+1)]
	case 1:
		n.Kind = rng.Intn(72) - 1
	case 2:
		n.Text, n.N = "$", number()
	case 3:
		n.Kids = append(n.Kids, api.Node{Kind: rng.Intn(72) - 1})
	}
}

// The bound: trees nested in one another as far as it goes, which no source may have.
func TestDeepTrees(t *testing.T) {
	const deep = 1 << 16
	wrap := func(n api.Node, kind int, text string, more ...api.Node) api.Node {
		for range deep / 4 {
			n = api.Node{Kind: kind, Text: text, Kids: append([]api.Node{n}, more...)}
		}
		return n
	}
	one := api.Node{Kind: api.Num, N: 1}
	for _, n := range []api.Node{
		{Kind: api.Expr, Kids: []api.Node{wrap(one, api.Unary, "-")}},
		{Kind: api.Expr, Kids: []api.Node{wrap(one, api.Binary, "+", one)}},
		wrap(api.Node{Kind: api.Block}, api.Block, ""),
	} {
		module := api.Node{Kind: api.Module, Kids: []api.Node{n}}
		l, _, _, err := link.Link(api.Graph{Mods: []api.Mod{{Tree: module}}})
		if err != api.OK {
			t.Fatal(err)
		}
		s, _, _ := sign.Sign(l)
		if mod, at, err := Check(l, s); mod != 0 || at != 0 || err != api.OK {
			t.Error(mod, at, err)
		}
		if n.Kind == api.Expr {
			if got, err := TypeOf(l, s, 0, tree.Size(module)-1); types.Show(got) != "number" || err != api.OK {
				t.Error(got, err)
			}
		}
	}
	// Lists within one another are too large from some depth on.
	l, _, _, _ := link.Link(api.Graph{Mods: []api.Mod{{Tree: api.Node{Kind: api.Module, Kids: []api.Node{{Kind: api.Expr, Kids: []api.Node{wrap(one, api.Array, "")}}}}}}})
	s, _, _ := sign.Sign(l)
	if mod, at, err := Check(l, s); mod != 0 || at != 2+deep/4-api.MaxType || err != api.ErrComplex {
		t.Error(mod, at, err)
	}
	isRefused(t, strings.Repeat("[", 40)+"-''"+strings.Repeat("]", 40)+";", `-""`, api.ErrType)
}

package pure

import (
	"fmt"
	"math/rand"
	"slices"
	"testing"

	"gusset/api"
	"gusset/link"
	"gusset/tree"
)

// asks tells whether an item takes part in what a module imports or exports from others.
func asks(n api.Node) bool {
	return n.Kind == api.Import || n.Kind == api.ExportFrom
}

// reordered is a module whose items, but for those that ask, stand in another order and among others; and of each item the number that it has then.
func reordered(rng *rand.Rand, m api.Mod) (api.Mod, []int) {
	numbers := make([]int, len(m.Tree.Kids))
	others := []api.Node{}
	places := []int{}
	for i, n := range m.Tree.Kids {
		if !asks(n) {
			places = append(places, i)
		}
	}
	shuffled := slices.Clone(places)
	rng.Shuffle(len(shuffled), func(i, j int) { shuffled[i], shuffled[j] = shuffled[j], shuffled[i] })
	from := make([]int, len(m.Tree.Kids))
	for i := range from {
		from[i] = i
	}
	for i, place := range places {
		from[place] = shuffled[i]
	}
	for _, old := range from {
		for range rng.Intn(3) {
			name := fmt.Sprintf("more%d", len(others))
			others = append(others, api.Node{Kind: api.Let, Text: name, Kids: []api.Node{{Kind: api.None}, {Kind: api.Array, Kids: []api.Node{{Kind: api.Name, Text: name}}}}})
		}
		numbers[old] = len(others)
		others = append(others, m.Tree.Kids[old])
	}
	out := api.Mod{Path: m.Path, Tree: api.Node{Kind: api.Module, Kids: others}}
	for _, r := range m.Requests {
		r.Item = numbers[r.Item]
		out.Requests = append(out.Requests, r)
	}
	return out, numbers
}

// 19.4: what an item mentions hangs on the item and its module's imports alone: not on where it stands, and not on what stands beside it.
func TestItemsAlone(t *testing.T) {
	t.Parallel()
	moved := 0
	for seed := range int64(500) {
		sources, l := made(t, seed)
		rng := rand.New(rand.NewSource(seed))
		mod := rng.Intn(len(l.Graph.Mods))
		m, numbers := reordered(rng, l.Graph.Mods[mod])
		g := api.Graph{Mods: slices.Clone(l.Graph.Mods)}
		g.Mods[mod] = m
		other, _, _, err := link.Link(g)
		if err != api.OK {
			t.Fatalf("%q: the error %d", sources, err)
		}
		for item, number := range numbers {
			if !tree.Same(m.Tree.Kids[number], l.Graph.Mods[mod].Tree.Kids[item]) {
				t.Fatalf("%q: the item %d is not %d", sources, item, number)
			}
			got, want := Mentions(other, mod, number), Mentions(l, mod, item)
			if !slices.Equal(got, want) {
				t.Fatalf("%q: the item %d of %d mentions %s, at %d %s", sources, item, mod, told(want), number, told(got))
			}
			if len(got) > 0 && number != item {
				moved++
			}
		}
	}
	if moved < 500 {
		t.Error(moved)
	}
}

// 19.4: what other modules do, but for what they export, plays no part.
func TestOtherModules(t *testing.T) {
	const a = "import * as n from './b'; import { f } from './b'; [n.x, f, n.nope, n.m.x];"
	for _, b := range []string{
		"export let x = 1; export function f() { } export * as m from './b';",
		"print(1); export * as m from './b'; let nope = 2; export const x = () => nope; export class f { nope = 1; }",
		"type nope = number; let y = 2; class f { } export { f, nope }; export { y as z }; let x = 1; import * as q from './b'; export { q as m, x };",
	} {
		lastMentions(t, "1.f 1.x 1.*", a, b)
	}
}

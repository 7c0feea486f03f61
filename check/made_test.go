package check

import (
	"fmt"
	"testing"

	"gusset/api"
	"gusset/graph"
	"gusset/link"
	"gusset/sign"
	"gusset/tree"
	"gusset/vfs"
)

// made are the modules of a seed, if they can be linked and signed.
func made(t *testing.T, seed int64) (api.Linked, api.Signs, []string, bool) {
	t.Helper()
	sources := madeSources(seed)
	files := vfs.New()
	for i, s := range sources {
		files.Write("/"+string(rune('a'+i))+".ts", s)
	}
	g, _, _, err := graph.Load(files, "/a")
	if err != api.OK {
		t.Fatalf("%q: the error %d", sources, err)
	}
	l, _, _, err := link.Link(g)
	if err != api.OK {
		return api.Linked{}, api.Signs{}, sources, false
	}
	s, _, err := sign.Sign(l)
	return l, s, sources, err == api.OK
}

// 18.1, 18.2: modules that are made by chance, against the model.
func TestMade(t *testing.T) {
	t.Parallel()
	met := map[string]int{}
	for seed := range int64(3000) {
		l, s, sources, ok := made(t, seed)
		if !ok {
			met["not linked"]++
			continue
		}
		var want fault
		wantMod := 0
		for mod := range l.Graph.Mods {
			if want = newModel(l, s, mod, met).walk(); want.err != api.OK {
				wantMod = mod
				break
			}
		}
		mod, at, err := Check(l, s)
		if mod != wantMod || at != want.at || err != want.err {
			t.Fatalf("seed %d: %q: module %d, %d (%s), the error %d; want %d, %d (%s), %d", seed, sources, mod, at, textAt(l, mod, at), err, wantMod, want.at, textAt(l, wantMod, want.at), want.err)
		}
		n, _ := tree.At(l.Graph.Mods[mod].Tree, at)
		met[fmt.Sprint("ends at ", n.Kind)]++
	}
	// Each is met often: the walk to its end, its end at every kind of place, and names of every kind.
	for what, often := range map[string]int{
		"ends at 68": 500, "ends at 16": 30, "ends at 18": 100, "ends at 19": 15, "ends at 20": 15, "ends at 21": 100, "ends at 22": 30, "ends at 40": 50, "ends at 43": 8, "ends at 50": 50, "ends at 6": 80,
		"early": 2000, "assigned": 800, "narrowed": 8000, "several facts": 3000, "shadowed": 300,
	} {
		if met[what] < often {
			t.Errorf("%s: %d times", what, met[what])
		}
	}
	if met["not linked"] > 1000 {
		t.Error(met["not linked"])
	}
}

// 18.2: the type of every expression, against the model.
func TestMadeTypes(t *testing.T) {
	t.Parallel()
	kinds := map[int]int{}
	for seed := range int64(60) {
		l, s, sources, ok := made(t, seed)
		if !ok {
			continue
		}
		for mod := range l.Graph.Mods {
			m := newModel(l, s, mod, map[string]int{})
			end := m.walk()
			for at := -1; at <= len(m.nodes); at++ {
				wantErr, want := api.ErrArg, api.Type{}
				if m.isExpression(at) {
					wantErr = end.err
				}
				if wantErr == api.OK {
					want = m.typeOf(at)
					kinds[want.Kind]++
				}
				if got, err := TypeOf(l, s, mod, at); err != wantErr || told(got) != told(want) {
					t.Fatalf("seed %d: %q: %d: %d (%s): %s, %d; want %s, %d", seed, sources, mod, at, textAt(l, mod, at), told(got), err, told(want), wantErr)
				}
			}
		}
	}
	for kind := api.TypeAny; kind <= api.TypeSpace; kind++ {
		if kinds[kind] < 50 && kind != api.TypeUndef {
			t.Error(kind, kinds[kind])
		}
	}
}

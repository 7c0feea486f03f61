package sign

import (
	"fmt"
	"math"
	"math/rand"
	"strings"
	"testing"

	"gusset/api"
	trees "gusset/tree"
	"gusset/types"
	"gusset/vfs"
)

// perFile are as many aliases as a file has room for.
const perFile = 2300

// chained are as many modules as a build may have, in which an alias leads over all others, up to an end.
func chained(t *testing.T, form, end string) api.Linked {
	t.Helper()
	files := vfs.New()
	for i := range api.MaxFiles {
		var b strings.Builder
		next := end
		if i < api.MaxFiles-1 {
			next = "N"
			fmt.Fprintf(&b, "import { T0 as N } from './m%d';", i+1)
		}
		if i == api.MaxFiles-1 && strings.Contains(end, "N") {
			b.WriteString("import { T0 as N } from './m0';")
		}
		for j := range perFile - 1 {
			fmt.Fprintf(&b, strings.ReplaceAll("type T%d="+form+";", "?", "T%d"), j, j+1)
		}
		fmt.Fprintf(&b, "type T%d=%s; export { T0 };", perFile-1, next)
		if err := files.Write(fmt.Sprintf("/m%d", i), b.String()); err != api.OK {
			t.Fatal(err)
		}
	}
	return linkedFiles(t, files, "/m0")
}

// R1: an alias that leads over all aliases that a build has room for; to a type, to itself, to one that is too large.
func TestLongChains(t *testing.T) {
	for _, c := range []struct {
		form, end, want string
		err             api.Errno
	}{
		{"?", "number | null", "number | null", api.OK},
		{"?", "N", "", api.ErrType},
		{"{ a: ?; }", "N", "", api.ErrType},
		{"?[]", "null", "", api.ErrComplex},
	} {
		l := chained(t, c.form, c.end)
		s, mod, err := Sign(l)
		if mod != 0 || err != c.err {
			t.Errorf("%s, %s: module %d, the error %d", c.form, c.end, mod, err)
		}
		last := api.MaxFiles - 1
		if err == api.OK && (types.Show(s.Tops[0][0].Type) != c.want || len(s.Tops[last]) != perFile || s.Tops[0][0].Name != "T0") {
			t.Errorf("%s, %s: %v", c.form, c.end, s.Tops[0][0])
		}
		for _, signs := range []api.Signs{s, {}} {
			got, err := Type(l, signs, 0, name("T0"))
			if err != c.err || err == api.OK && types.Show(got) != c.want {
				t.Errorf("Type of %s, %s: %s, the error %d", c.form, c.end, types.Show(got), err)
			}
		}
	}
}

// R1: aliases each of which names the next one several times: each is asked for once.
func TestManyWays(t *testing.T) {
	const count = 1500
	for _, c := range []struct {
		form, want string
		err        api.Errno
	}{
		{"? | ? | null", "number | null", api.OK},
		{"{ a: ?; b: ?; } | any", "any", api.OK},
		{"{ a: ?; b: ?; }", "", api.ErrComplex},
		{"(a: ?, b: ?) => ?", "", api.ErrComplex},
	} {
		source := ""
		for i := range count {
			source += fmt.Sprintf("type T%d = %s;", i, strings.ReplaceAll(c.form, "?", fmt.Sprint("T", i+1)))
		}
		l := linked(t, source+fmt.Sprintf("type T%d = number;", count))
		s, _, err := Sign(l)
		if err != c.err || err == api.OK && (s.Tops[0][0].Name != "T0" || types.Show(s.Tops[0][0].Type) != c.want) {
			t.Errorf("%s: the error %d", c.form, err)
		}
		if got, err := Type(l, api.Signs{}, 0, name("T0")); err != c.err || err == api.OK && types.Show(got) != c.want {
			t.Errorf("Type of %s: the error %d", c.form, err)
		}
	}
}

// R1: trees within one another, as many as may be.
func TestDeepTrees(t *testing.T) {
	const deepest = 1<<16 - 8
	l := linked(t, "type T = number | null; class C { }")
	s, _, _ := Sign(l)
	for _, kind := range []int{api.TypeArray, api.TypeObject, api.TypeFunc} {
		for leaf, want := range map[string]api.Errno{"T": api.ErrComplex, "none": api.ErrType, "if": api.ErrArg} {
			n := name(leaf)
			for range deepest / 2 {
				switch kind {
				case api.TypeArray:
					n = api.Node{Kind: api.TypeArray, Kids: []api.Node{n}}
				case api.TypeObject:
					n = api.Node{Kind: api.TypeObject, Kids: []api.Node{{Kind: api.TypeProp, Text: "a", Kids: []api.Node{n}}}}
				case api.TypeFunc:
					n = api.Node{Kind: api.TypeFunc, Kids: []api.Node{{Kind: api.Params}, n}}
				}
			}
			if got, err := Type(l, s, 0, n); err != want || !isZero(got) {
				t.Errorf("%d, %s: the error %d", kind, leaf, err)
			}
		}
	}
}

// R1: as many modules as a build may have, each nearly as large as a file may be, in a circle; each names all that the next one declares.
func TestManyNames(t *testing.T) {
	const names = 900
	files := vfs.New()
	for i := range api.MaxFiles {
		var imports, items strings.Builder
		for j := range names {
			fmt.Fprintf(&imports, "x%d as y%d, ", j, j)
			fmt.Fprintf(&items, "export class x%d { z: y%d = 1; } ", j, j)
		}
		source := fmt.Sprintf("import { %s} from './m%d'; %s", imports.String(), (i+1)%api.MaxFiles, items.String())
		if err := files.Write(fmt.Sprintf("/m%d", i), source); err != api.OK {
			t.Fatal(err)
		}
	}
	l := linkedFiles(t, files, "/m0")
	s, mod, err := Sign(l)
	if mod != 0 || err != api.OK || len(s.Classes) != names*api.MaxFiles {
		t.Fatal(mod, err, len(s.Classes))
	}
	for number, c := range s.Classes {
		i, j := number/names, number%names
		want := fmt.Sprintf("%d x%d inst#%d", i, j, (i+1)%api.MaxFiles*names+j)
		if got := fmt.Sprint(c.Mod, " ", c.Name, " ", types.Show(c.Members[0].Type)); got != want {
			t.Fatalf("%s, want %s", got, want)
		}
	}
	for i := range 20_000 {
		got, err := Type(l, s, i%api.MaxFiles, name(fmt.Sprint("y", i%names)))
		if err != api.OK || got.Kind != api.TypeInst || got.N != (i+1)%api.MaxFiles*names+i%names {
			t.Fatal(i, got, err)
		}
	}
}

// spoil changes something of a linked graph.
func spoil(c *rand.Rand, l *api.Linked) {
	numbers := []int{math.MinInt, -1, 0, 1, 2, 3, 7, 1 << 40, math.MaxInt}
	number := numbers[c.Intn(len(numbers))]
	mod := &l.Graph.Mods[c.Intn(len(l.Graph.Mods))]
	switch c.Intn(9) {
	case 0:
		l.Scopes = l.Scopes[:c.Intn(len(l.Scopes)+1)]
	case 1:
		l.Entries = l.Entries[:c.Intn(len(l.Entries)+1)]
	case 2:
		l.Founds = l.Founds[:c.Intn(len(l.Founds)+1)]
	case 3:
		for _, founds := range l.Founds {
			for i := range founds {
				founds[i].Mod = number
			}
		}
	case 4:
		for _, s := range l.Scopes {
			for i := range s.Tops {
				s.Tops[i].Item, s.Tops[i].Kind = number, c.Intn(70)
			}
		}
	default:
		at := 1 + c.Intn(trees.Size(mod.Tree)-1)
		n, _ := trees.At(mod.Tree, at)
		switch c.Intn(4) {
		case 0:
			n.Kids = n.Kids[:c.Intn(len(n.Kids)+1)]
		case 1:
			n.Kids = append(n.Kids, trees.Copy(n))
		case 2:
			n.Kind = c.Intn(72)
		case 3:
			n.Text = ""
		}
		mod.Tree, _ = trees.Replace(mod.Tree, at, n)
	}
}

// R1: no linked graph, no signs and no tree bring Sign or Type to a panic.
func TestSpoilt(t *testing.T) {
	var last api.Signs
	for seed := range int64(1500) {
		_, _, l, ok := made(t, seed)
		if !ok {
			continue
		}
		c := rand.New(rand.NewSource(seed))
		n := typeTrees(l.Graph.Mods[0].Tree)
		for range 1 + c.Intn(4) {
			spoil(c, &l)
		}
		s, mod, err := Sign(l)
		if err != api.OK && !isEmpty(s) || err == api.OK && (mod != 0 || len(s.Tops) != len(l.Graph.Mods)) {
			t.Fatal(seed, mod, err)
		}
		for i := range min(len(n), 5) {
			for _, signs := range []api.Signs{s, {}, last} {
				if got, err := Type(l, signs, c.Intn(len(l.Graph.Mods)), n[i]); err != api.OK && !isZero(got) {
					t.Fatal(seed, got, err)
				}
			}
		}
		if err == api.OK {
			last = s
		}
	}
}

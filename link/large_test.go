package link

import (
	"fmt"
	"strings"
	"testing"

	"gusset/api"
	"gusset/graph"
	"gusset/module"
	"gusset/vfs"
)

// listed is one text for each number, with commas between.
func listed(count int, form string) string {
	var l []string
	for i := range count {
		l = append(l, fmt.Sprintf(form, i))
	}
	return strings.Join(l, ", ")
}

// R1: as many modules as a build may have, each nearly as large as a file may be, in a circle; each uses all names of the next one.
func TestManyNames(t *testing.T) {
	const names = 1500
	files := vfs.New()
	for i := range api.MaxFiles {
		source := fmt.Sprintf("import { %s } from './m%d'; let v = 1; export { %s }; print(%s);", listed(names, "x%[1]d as y%[1]d"), (i+1)%api.MaxFiles, listed(names, "v as x%d"), listed(names, "y%d"))
		if err := files.Write(fmt.Sprintf("/m%d", i), source); err != api.OK {
			t.Fatal(err)
		}
	}
	g, _, _, err := graph.Load(files, "/m0")
	if err != api.OK || len(g.Mods) != api.MaxFiles {
		t.Fatal(err)
	}
	l, _, _, err := Link(g)
	if err != api.OK {
		t.Fatal(err)
	}
	for i, founds := range l.Founds {
		want := api.Found{Kind: api.FoundOne, Mod: (i + 1) % api.MaxFiles, Name: "v"}
		if len(founds) != names || founds[0] != want || founds[names-1] != want {
			t.Fatalf("%d: %v", i, founds)
		}
	}
}

// R1: graphs with far more modules than a build has: each hands on what the next one gives. (Of what each names itself the whole way is asked anew.)
func TestManyModules(t *testing.T) {
	for _, c := range []struct {
		many     int
		way, end string
		name     string
		err      api.Errno
	}{
		{20_000, "export * from './next';", "export let x = 1;", "", api.OK},
		{20_000, "export * from './next';", "export type x = number;", "x", api.ErrType},
		{20_000, "export * from './next';", "", "x", api.ErrNoExport},
		{500, "export { x } from './next';", "export let x = 1;", "", api.OK},
		{500, "export { x } from './next';", "", "x", api.ErrNoExport},
		{500, "import { x } from './next'; export { x };", "export type x = number;", "x", api.ErrType},
	} {
		_, mod, name, err := Link(chain(t, c.many, "import { x } from './next'; x;", c.way, c.end))
		if mod != 0 || name != c.name || err != c.err {
			t.Errorf("%q, %q: %d %q %d", c.way, c.end, mod, name, err)
		}
	}
}

// chain are modules of which each asks for the next one.
func chain(t *testing.T, many int, first, way, end string) api.Graph {
	t.Helper()
	parsed := func(s string) api.Node {
		n, _, err := module.Module(s)
		if err != api.OK {
			t.Fatal(s)
		}
		return n
	}
	g := api.Graph{Mods: make([]api.Mod, many)}
	between := parsed(way)
	for i := range g.Mods {
		g.Mods[i] = api.Mod{Path: fmt.Sprint("/", i), Tree: between, Requests: []api.Request{{Text: "./next", Target: i + 1}}}
	}
	g.Mods[0].Tree, g.Mods[many-1].Tree = parsed(first), parsed(end)
	return g
}

// R1: uses within as many trees as there may be.
func TestDeep(t *testing.T) {
	deep := func(use string) string {
		return "import { x } from './b'; " + strings.Repeat("{ ", api.MaxNest-5) + use + strings.Repeat(" }", api.MaxNest-5)
	}
	hold(t, []sample{
		{all(deep("x;"), "export let x = 1;"), 0, "", api.OK},
		{all(deep("x;"), "export type x = number;"), 0, "x", api.ErrType},
		{all(deep("let y: x = 1;"), "export let x = 1;"), 0, "x", api.ErrType},
	})
}

package pure

import (
	"fmt"
	"strings"
	"testing"

	"gusset/api"
	"gusset/graph"
	"gusset/lex"
	"gusset/link"
	"gusset/module"
	"gusset/parse"
	"gusset/vfs"
)

func expr(t *testing.T, source string) api.Node {
	t.Helper()
	l, _, err := lex.Lex(source, false)
	if err != api.OK {
		t.Fatalf("%q: the error %d", source, err)
	}
	n, end, err := parse.Expr(l, 0)
	if err != api.OK || end != len(l) {
		t.Fatalf("%q: the error %d, up to %d", source, err, end)
	}
	return n
}

func items(t *testing.T, source string) []api.Node {
	t.Helper()
	n, _, err := module.Module(source)
	if err != api.OK {
		t.Fatalf("%q: the error %d", source, err)
	}
	return n.Kids
}

// loaded are the modules /a, /b and so on; /a is the entry.
func loaded(t *testing.T, sources ...string) api.Graph {
	t.Helper()
	files := vfs.New()
	for i, s := range sources {
		if err := files.Write("/"+string(rune('a'+i))+".ts", s); err != api.OK {
			t.Fatalf("%q: the error %d", s, err)
		}
	}
	g, path, name, err := graph.Load(files, "/a")
	if err != api.OK {
		t.Fatalf("%q: %s %s, the error %d", sources, path, name, err)
	}
	return g
}

func linked(t *testing.T, sources ...string) api.Linked {
	t.Helper()
	l, mod, name, err := link.Link(loaded(t, sources...))
	if err != api.OK {
		t.Fatalf("%q: %d %s, the error %d", sources, mod, name, err)
	}
	return l
}

// told is a list of mentions in short: 1.x, a top of module 1; 1.*, its namespace. What should not be there is told, too.
func told(l []api.Found) string {
	var s []string
	for _, f := range l {
		one := fmt.Sprintf("%d.%s", f.Mod, f.Name)
		switch {
		case f.Kind == api.FoundSpace && f.Name == "":
			one += "*"
		case f.Kind != api.FoundOne || f.Name == "":
			one = fmt.Sprint(f)
		}
		if f.Type {
			one += " of types"
		}
		s = append(s, one)
	}
	return strings.Join(s, " ")
}

// mentions holds what an item mentions against what is wanted, and its Values against the namespaces in that.
func mentions(t *testing.T, l api.Linked, mod, item int, want string) {
	t.Helper()
	if got := told(Mentions(l, mod, item)); got != want {
		t.Errorf("the item %d of %d mentions %q, want %q", item, mod, got, want)
	}
	var spaces []int
	for _, one := range strings.Fields(want) {
		var space int
		if strings.HasSuffix(one, ".*") {
			fmt.Sscanf(one, "%d", &space)
			spaces = append(spaces, space)
		}
	}
	if got := Values(l, mod, item); fmt.Sprint(got) != fmt.Sprint(spaces) {
		t.Errorf("the item %d of %d: the namespaces %v, want %v", item, mod, got, spaces)
	}
}

// lastMentions is mentions of the last item of the entry.
func lastMentions(t *testing.T, want string, sources ...string) {
	t.Helper()
	l := linked(t, sources...)
	last := len(l.Graph.Mods[0].Tree.Kids) - 1
	if got := told(Mentions(l, 0, last)); got != want {
		t.Errorf("%q: %q, want %q", sources, got, want)
	}
	mentions(t, l, 0, last, want)
}

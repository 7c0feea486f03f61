package hoist

import (
	"fmt"
	"slices"
	"strings"
	"testing"

	"gusset/api"
	"gusset/graph"
	"gusset/link"
	"gusset/scope"
	"gusset/show"
	"gusset/tree"
	"gusset/vfs"
)

// filled repeats a piece, with its number in the place of #, as often as a file has room for it.
func filled(ahead, piece, behind string) (string, int) {
	var s strings.Builder
	s.WriteString(ahead)
	for i := 0; ; i++ {
		next := strings.ReplaceAll(piece, "#", fmt.Sprint(i))
		if s.Len()+len(next)+len(behind) > api.MaxBytes {
			return s.String() + behind, i
		}
		s.WriteString(next)
	}
}

// 22.2: files as long as they may be, full of one item each.
func TestLarge(t *testing.T) {
	t.Parallel()
	for _, c := range []struct{ ahead, piece, first, want string }{
		{"", "print(#);", "", "print(#);\n"},
		{"", "let x#=text(1);", "", "let x#$0 = text(1);\n"},
		{"", "export let x#=1;", "", "let x#$0 = 1;\n"},
		{"import{x}from'./b';", "x(x);", "let x$1 = 1;\n", "x$1(x$1);\n"},
		{"import*as n from'./b';", "n.n.x(n);", "namespace $1 {\n  n = $1;\n  x = x$1;\n}\nlet x$1 = 1;\n", "x$1($1);\n"},
	} {
		source, pieces := filled(c.ahead, c.piece, "")
		want := c.first
		for i := range pieces {
			want += strings.ReplaceAll(c.want, "#", fmt.Sprint(i))
		}
		script, origins := Bundle(linked(t, source, "export let x=1; export*as n from'./b';"))
		if got := show.Show(script); got != want || pieces < 3000 {
			t.Errorf("%s: %.200s, want %.200s", c.piece, got, want)
		}
		ahead := len(origins) - pieces
		for i := range pieces {
			if want := (api.Origin{Mod: 0, Item: i + strings.Count(c.ahead, ";")}); origins[ahead+i] != want {
				t.Fatal(origins[ahead+i], want)
			}
		}
	}
}

// 22.2: a namespace of as many names as a file has room for, over a star.
func TestLargeSpace(t *testing.T) {
	t.Parallel()
	source, pieces := filled("", "export let x#=1;", "")
	script, origins := Bundle(linked(t, "import * as n from './b'; n;", "export * from './c';", source))
	var names []string
	for i := range pieces {
		names = append(names, fmt.Sprintf("x%d", i))
	}
	slices.Sort(names)
	if len(script.Kids) != pieces+2 || len(script.Kids[0].Kids) != pieces || len(origins) != pieces+2 || script.Kids[0].Text != "$1" {
		t.Fatal(len(script.Kids), pieces)
	}
	for i, one := range script.Kids[0].Kids {
		if one.Text != names[i] || one.Kids[0].Text != names[i]+"$2" {
			t.Fatal(i, one)
		}
	}
}

// manyModules are as many modules as there may be, /m0 and so on.
func manyModules(t *testing.T, source func(mod int) string) api.Linked {
	t.Helper()
	files := vfs.New()
	for mod := range api.MaxFiles {
		if err := files.Write(fmt.Sprintf("/m%d", mod), source(mod)); err != api.OK {
			t.Fatal(err)
		}
	}
	g, path, name, err := graph.Load(files, "/m0")
	if err != api.OK || len(g.Mods) != api.MaxFiles {
		t.Fatal(path, name, err, len(g.Mods))
	}
	l, mod, name, err := link.Link(g)
	if err != api.OK {
		t.Fatal(mod, name, err)
	}
	return l
}

// 22.1, 22.2: as many modules as there may be, each of which has the namespaces of all.
func TestManySpaces(t *testing.T) {
	t.Parallel()
	l := manyModules(t, func(mod int) string {
		s := ""
		for other := range api.MaxFiles {
			s += fmt.Sprintf("import * as i%d from './m%d'; export { i%d as n%d };", other, other, other, other)
		}
		return s + "export let x = 1; print(i63.n0.x);"
	})
	script, origins := Bundle(l)
	if len(script.Kids) != 3*api.MaxFiles || len(origins) != 3*api.MaxFiles || tree.Form(script) != api.FormScript {
		t.Fatal(len(script.Kids), len(origins))
	}
	for mod, n := range script.Kids[:api.MaxFiles] {
		if n.Text != fmt.Sprintf("$%d", mod) || len(n.Kids) != api.MaxFiles+1 || n.Kids[api.MaxFiles].Kids[0].Text != fmt.Sprintf("x$%d", mod) {
			t.Fatal(mod, n)
		}
		for _, one := range n.Kids[:api.MaxFiles] {
			if one.Kids[0].Text != "$"+one.Text[1:] {
				t.Fatal(one)
			}
		}
		if origins[mod] != (api.Origin{Mod: mod, Item: -1}) {
			t.Fatal(origins[mod])
		}
	}
	if got, want := show.Show(script.Kids[3*api.MaxFiles-1]), "print(x$0);"; got != want {
		t.Error(got, want)
	}
	if _, _, err := scope.Resolve(script); err != api.OK {
		t.Error(err)
	}
	// All ask for all in their order: each is entered from the one ahead of it.
	if order := Order(l); !slices.IsSortedFunc(order, func(a, b int) int { return b - a }) || len(order) != api.MaxFiles {
		t.Error(order)
	}
}

// 22.1, 22.2: a chain of modules, each of which calls what the next one gives.
func TestLongChain(t *testing.T) {
	t.Parallel()
	const last = api.MaxFiles - 1
	l := manyModules(t, func(mod int) string {
		if mod == last {
			return "export function f() { return 1; }"
		}
		return fmt.Sprintf("import { f as next } from './m%d'; export function f() { return next(); }", mod+1)
	})
	want := fmt.Sprintf("function f$%d() {\n  return 1;\n}\n", last)
	for mod := last - 1; mod >= 0; mod-- {
		want += fmt.Sprintf("function f$%d() {\n  return f$%d();\n}\n", mod, mod+1)
	}
	script, origins := Bundle(l)
	if got := show.Show(script); got != want {
		t.Errorf("%s\nwant\n%s", got, want)
	}
	for i, o := range origins {
		if o != (api.Origin{Mod: last - i, Item: min(1, i)}) {
			t.Error(i, o)
		}
	}
}

// The bound: trees nested in one another as far as it goes, which no source may have.
func TestDeepTrees(t *testing.T) {
	const deep = 1 << 14
	g := loaded(t, "import * as n from './b';", "export * as m from './b'; export let x = 1;")
	way, list := api.Node{Kind: api.Name, Text: "n"}, api.Node{Kind: api.Name, Text: "n"}
	for range deep {
		way = api.Node{Kind: api.Member, Text: "m", Kids: []api.Node{way}}
		list = api.Node{Kind: api.Array, Kids: []api.Node{list}}
	}
	for _, n := range []api.Node{{Kind: api.Member, Text: "x", Kids: []api.Node{way}}, list} {
		g.Mods[0].Tree.Kids = append(g.Mods[0].Tree.Kids, api.Node{Kind: api.Expr, Kids: []api.Node{n}})
	}
	l, _, _, err := link.Link(g)
	if err != api.OK {
		t.Fatal(err)
	}
	script, origins := Bundle(l)
	if told(origins) != "1.* 1.1 0.1 0.2" || tree.Size(script) != 1+5+3+2+deep+2 {
		t.Error(told(origins), tree.Size(script))
	}
	if got := show.Show(script.Kids[2]); got != "x$1;" {
		t.Error(got)
	}
	if n, _ := tree.At(script.Kids[3], deep+1); n.Text != "$1" {
		t.Error(n)
	}
}

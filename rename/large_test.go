package rename

import (
	"fmt"
	"strings"
	"testing"

	"gusset/api"
	"gusset/graph"
	"gusset/link"
	"gusset/show"
	"gusset/tree"
	"gusset/vfs"
)

// filled repeats a piece, with its number in the place of #, as often as a file has room for it.
func filled(ahead, piece, behind string) (string, int) {
	var s strings.Builder
	s.WriteString(ahead)
	for i := 0; ; i++ {
		next := strings.ReplaceAll(piece, "#", fmt.Sprint(i))
		if s.Len()+len(next)+len(behind) > api.MaxBytes {
			return s.String() + behind, i
		}
		s.WriteString(next)
	}
}

// 21.2: items as long as they may be, full of one thing each.
func TestLarge(t *testing.T) {
	t.Parallel()
	const b = "export const x = 1; export * as m from './b'; export class C { }"
	for _, c := range []struct{ ahead, piece, behind, want string }{
		{"import * as n from './b'; [", "n.x,", "];", "x$1"},
		{"import * as n from './b'; [", "n,", "];", "$1"},
		{"import * as n from './b'; [", "n.m.m.m.x,", "];", "x$1"},
		{"import * as n from './b'; [", "n.m.y,", "];", "$1.y"},
		{"import { C } from './b'; [", "new C(),", "];", "new C$1()"},
		{"let a = 1; [", "a,", "];", "a$0"},
		{"print; [", "print,", "];", "print"},
	} {
		source, many := filled(c.ahead, c.piece, c.behind)
		l := linked(t, source, b)
		n, ok := Item(l, 0, 1)
		if want := "[" + strings.TrimSuffix(strings.Repeat(c.want+", ", many), ", ") + "];"; !ok || show.Show(n) != want || many < 4000 {
			t.Errorf("%s: %t %.100s, want %d of %s", c.piece, ok, show.Show(n), many, c.want)
		}
	}
	source, many := filled("function f() {", "let a#:any=f;", "}")
	n, _ := Item(linked(t, source), 0, 0)
	if types, marked := typesOf(n); types > 0 || len(marked) > 0 || len(n.Kids[2].Kids) != many || n.Kids[2].Kids[many-1].Kids[1].Text != "f$0" {
		t.Error(types, len(marked))
	}
	// As many members as exports, over some stars.
	source, _ = filled("import * as n from './b'; [", "n.x#,", "];")
	last, many := filled("", "export let x#=1;", "")
	n, _ = Item(linked(t, source, "export * from './c';", "export * from './d';", last), 0, 1)
	for i, k := range n.Kids[0].Kids {
		if way := (api.Node{Kind: api.Name, Text: fmt.Sprintf("x%d$3", i)}); i < many && !tree.Same(k, way) || i >= many && k.Kids[0].Text != "$1" {
			t.Fatal(i, k)
		}
	}
}

// 21.2: each item of a long file.
func TestLargeItems(t *testing.T) {
	t.Parallel()
	source, _ := filled("import * as n from './b'; import { x } from './b'; let q = 1; ", "x;n.x;n;q(n.x);", "")
	l := linked(t, source, "export let x = 1;")
	want := []string{"x$1;", "x$1;", "$1;", "q$0(x$1);"}
	for item := range l.Graph.Mods[0].Tree.Kids[3:] {
		hold(t, l, 0, 3+item, want[item%4])
	}
}

// The bound: trees nested in one another as far as it goes, which no source may have.
func TestDeepTrees(t *testing.T) {
	const deep = 1 << 14
	g := loaded(t, "import * as n from './b';", "export * as m from './b'; export let x = 1;")
	way, list := api.Node{Kind: api.Name, Text: "n"}, api.Node{Kind: api.Name, Text: "n"}
	for range deep {
		way = api.Node{Kind: api.Member, Text: "m", Kids: []api.Node{way}}
		list = api.Node{Kind: api.Array, Kids: []api.Node{list}}
	}
	for _, n := range []api.Node{way, {Kind: api.Member, Text: "x", Kids: []api.Node{way}}, {Kind: api.Member, Text: "nope", Kids: []api.Node{way}}, list} {
		g.Mods[0].Tree.Kids = append(g.Mods[0].Tree.Kids, api.Node{Kind: api.Expr, Kids: []api.Node{n}})
	}
	l, _, _, err := link.Link(g)
	if err != api.OK {
		t.Fatal(err)
	}
	for item, want := range []string{none, "$1;", "x$1;", "$1.nope;"} {
		hold(t, l, 0, item, want)
	}
	n, ok := Item(l, 0, 4)
	if last, _ := tree.At(n, deep+1); !ok || tree.Size(n) != deep+2 || last.Text != "$1" {
		t.Error(ok, tree.Size(n), last)
	}
}

// 21.2: as many modules as there may be, each with all the others.
func TestManyModules(t *testing.T) {
	t.Parallel()
	files := vfs.New()
	var spaces, ones []string
	for i := range api.MaxFiles {
		var s, all strings.Builder
		for j := range api.MaxFiles {
			fmt.Fprintf(&s, "import * as n%d from './m%d';", j, j)
			fmt.Fprintf(&all, "n%d,", j)
		}
		fmt.Fprintf(&s, "export let x = [%s]; export let y = [%s];", all.String(), strings.ReplaceAll(all.String(), ",", ".x,"))
		files.Write(fmt.Sprintf("/m%d.ts", i), s.String())
		spaces, ones = append(spaces, fmt.Sprintf("$%d", i)), append(ones, fmt.Sprintf("x$%d", i))
	}
	g, _, _, err := graph.Load(files, "/m0")
	if err != api.OK || len(g.Mods) != api.MaxFiles {
		t.Fatal(err, len(g.Mods))
	}
	l, _, _, err := link.Link(g)
	if err != api.OK {
		t.Fatal(err)
	}
	for mod := range api.MaxFiles {
		hold(t, l, mod, api.MaxFiles, fmt.Sprintf("let x$%d = [%s];", mod, strings.Join(spaces, ", ")))
		hold(t, l, mod, api.MaxFiles+1, fmt.Sprintf("let y$%d = [%s];", mod, strings.Join(ones, ", ")))
		hold(t, l, mod, mod, none)
	}
}

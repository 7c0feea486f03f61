package pure

import (
	"fmt"
	"strings"
	"testing"

	"gusset/api"
	"gusset/graph"
	"gusset/link"
	"gusset/vfs"
)

// filled repeats a piece, with its number in the place of #, as often as a file has room for it.
func filled(ahead, piece, behind string) string {
	var s strings.Builder
	s.WriteString(ahead)
	for i := 0; ; i++ {
		next := strings.ReplaceAll(piece, "#", fmt.Sprint(i))
		if s.Len()+len(next)+len(behind) > api.MaxBytes {
			return s.String() + behind
		}
		s.WriteString(next)
	}
}

// 19.3: files as long as they may be, full of one thing each.
func TestLarge(t *testing.T) {
	t.Parallel()
	const b = "export const x = 1; export * as m from './b';"
	lastMentions(t, "1.x", filled("import * as n from './b'; [", "n.x,", "];"), b)
	lastMentions(t, "1.*", filled("import * as n from './b'; [", "n.y,", "];"), b)
	lastMentions(t, "1.x 1.*", filled("import * as n from './b'; [", "n,n.m.m.x,", "];"), b)
	lastMentions(t, "1.x", filled("import { x } from './b'; [", "x,", "];"), b)
	lastMentions(t, "0.a", filled("let a = 1; [", "a,", "];"))
	lastMentions(t, "1.x", filled("import * as n from './b'; ", "let a#=1;", "n.x;"), b)
	lastMentions(t, "1.*", filled("import * as n from './b'; function f() {", "n;", "}"), b)
	// As many members as exports, over some stars.
	sources := []string{filled("import * as n from './b'; [", "n.x#,", "];"), "export * from './c';", "export * from './d';", filled("", "export let x#=1;", "")}
	l := linked(t, sources...)
	if got := Mentions(l, 0, 1); len(got) < 3000 || len(Values(l, 0, 1)) > 1 {
		t.Error(len(got))
	}
}

// 19.3: each item of a long file.
func TestLargeItems(t *testing.T) {
	t.Parallel()
	l := linked(t, filled("import * as n from './b'; import { x } from './b'; let q = 1; ", "x;n.x;n;q(n.x);", ""), "export let x = 1;")
	want := []string{"1.x", "1.x", "1.*", "0.q 1.x"}
	for item := range l.Graph.Mods[0].Tree.Kids[3:] {
		if got := told(Mentions(l, 0, 3+item)); got != want[item%4] {
			t.Fatalf("%d: %s", item, got)
		}
	}
}

// 19.1: expressions as large as they may be.
func TestLargeExpr(t *testing.T) {
	for source, want := range map[string]bool{
		filled("[", "1,", "];"):                                 true,
		filled("[", "1,", "x];"):                                false,
		filled("({", "a#:[!1],", "});"):                         true,
		filled("({", "a#:[!1],", "b});"):                        false,
		filled("[", "()=>f(x),", "];"):                          true,
		filled("function f() {", "f();", "}"):                   true,
		strings.Repeat("[", 90) + strings.Repeat("]", 90):       true,
		strings.Repeat("[", 90) + "x" + strings.Repeat("]", 90): false,
		strings.Repeat("!", 90) + "1":                           true,
		strings.Repeat("!", 90) + "-1":                          false,
		strings.Repeat("1 && ", 90) + "1":                       true,
		strings.Repeat("1 || ", 90) + "f()":                     false,
	} {
		if !strings.HasSuffix(source, ";") && !strings.HasSuffix(source, "}") {
			source += ";"
		}
		if got := Item(items(t, source)[0]); got != want {
			t.Errorf("%.60s: %t", source, got)
		}
	}
}

// The bound: trees nested in one another as far as it goes, which no source may have.
func TestDeepTrees(t *testing.T) {
	const deep = 1 << 14
	wrap := func(n api.Node, kind int, text string) api.Node {
		for range deep {
			n = api.Node{Kind: kind, Text: text, Kids: []api.Node{n}}
		}
		return n
	}
	one, name := api.Node{Kind: api.Num, N: 1}, api.Node{Kind: api.Name, Text: "n"}
	for _, wrapped := range []struct {
		kind int
		text string
	}{{api.Array, ""}, {api.Unary, "!"}, {api.Unary, "typeof"}} {
		if !Expr(wrap(one, wrapped.kind, wrapped.text)) || Expr(wrap(name, wrapped.kind, wrapped.text)) {
			t.Error(wrapped)
		}
	}
	g := loaded(t, "import * as n from './b';", "export * as m from './b'; export let x = 1;")
	way := wrap(name, api.Member, "m")
	for _, end := range []string{"x", "nope"} {
		n := api.Node{Kind: api.Expr, Kids: []api.Node{{Kind: api.Member, Text: end, Kids: []api.Node{way}}}}
		g.Mods[0].Tree.Kids = append(g.Mods[0].Tree.Kids, n, api.Node{Kind: api.Expr, Kids: []api.Node{wrap(n.Kids[0], api.Member, "nope")}})
	}
	l, _, _, err := link.Link(g)
	if err != api.OK {
		t.Fatal(err)
	}
	for item, want := range []string{"", "1.x", "1.x", "1.*", "1.*"} {
		mentions(t, l, 0, item, want)
	}
}

// 19.3: as many modules as there may be, each with all the others.
func TestManyModules(t *testing.T) {
	files := vfs.New()
	var spaces, ones []string
	for i := range api.MaxFiles {
		var s, all strings.Builder
		for j := range api.MaxFiles {
			fmt.Fprintf(&s, "import * as n%d from './m%d';", j, j)
			fmt.Fprintf(&all, "n%d,", api.MaxFiles-1-j)
		}
		fmt.Fprintf(&s, "export let x = [%s]; export let y = [%s];", all.String(), strings.ReplaceAll(all.String(), ",", ".x,"))
		files.Write(fmt.Sprintf("/m%d.ts", i), s.String())
		spaces, ones = append(spaces, fmt.Sprintf("%d.*", i)), append(ones, fmt.Sprintf("%d.x", i))
	}
	g, _, _, err := graph.Load(files, "/m0")
	if err != api.OK || len(g.Mods) != api.MaxFiles {
		t.Fatal(err, len(g.Mods))
	}
	l, _, _, err := link.Link(g)
	if err != api.OK {
		t.Fatal(err)
	}
	for mod := range api.MaxFiles {
		mentions(t, l, mod, api.MaxFiles, strings.Join(spaces, " "))
		mentions(t, l, mod, api.MaxFiles+1, strings.Join(ones, " "))
	}
}

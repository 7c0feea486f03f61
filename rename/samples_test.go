package rename

import (
	"fmt"
	"testing"

	"gusset/api"
	"gusset/graph"
	"gusset/link"
	"gusset/show"
	"gusset/tree"
	"gusset/vfs"
)

// loaded are the modules /a.ts, /b.ts and so on, as far as /a asks for them.
func loaded(t *testing.T, sources ...string) api.Graph {
	t.Helper()
	files := vfs.New()
	for i, s := range sources {
		if err := files.Write(fmt.Sprintf("/%c.ts", 'a'+i), s); err != api.OK {
			t.Fatalf("%.200q: the error %d", s, err)
		}
	}
	g, path, name, err := graph.Load(files, "/a")
	if err != api.OK {
		t.Fatalf("%.200q: %s %s, the error %d", sources, path, name, err)
	}
	return g
}

func linked(t *testing.T, sources ...string) api.Linked {
	t.Helper()
	l, mod, name, err := link.Link(loaded(t, sources...))
	if err != api.OK {
		t.Fatalf("%.200q: %d %s, the error %d", sources, mod, name, err)
	}
	return l
}

// none is what hold and holdLast want of an item that has no image.
const none = "none"

// hold holds an item's image, as source, against what is wanted.
func hold(t *testing.T, l api.Linked, mod, item int, want string) {
	t.Helper()
	got := none
	if n, ok := Item(l, mod, item); ok {
		got = show.Show(n)
	} else if !tree.Same(n, api.Node{}) {
		t.Errorf("the item %d of %d has no image, but %v", item, mod, n)
	}
	if got != want {
		t.Errorf("the item %d of %d: %q, want %q", item, mod, got, want)
	}
}

// holdLast is hold of the last item of the entry.
func holdLast(t *testing.T, want string, sources ...string) {
	t.Helper()
	l := linked(t, sources...)
	hold(t, l, 0, len(l.Graph.Mods[0].Tree.Kids)-1, want)
	if t.Failed() {
		t.Fatalf("%.300q", sources)
	}
}

// 21.1, 21.2: the chapter's examples.
func TestExamples(t *testing.T) {
	if Name(3, "x") != "x$3" || Space(0) != "$0" {
		t.Error(Name(3, "x"), Space(0))
	}
	for _, s := range []string{"x$03", "x", "a$b$1"} {
		if mod, name, ok := Back(s); mod != 0 || name != "" || ok {
			t.Errorf("%q: %d %q %t", s, mod, name, ok)
		}
	}
	l := linked(t,
		"import { i as j } from './b'; import * as n from './c'; export let k: number = n.x + j; import './d'; import './e';",
		"export const i = 1;", "export const x = 2;", "", "export default 5;")
	hold(t, l, 0, 2, "let k$0 = x$2 + i$1;")
	hold(t, l, 4, 0, "const default$4 = 5;")
}

// The document's examples of the whole, as far as the images of items stand in them.
func TestExamplesOfTheWhole(t *testing.T) {
	l := linked(t, "import { x } from './b'; print(x);", "export const x: number = 5;")
	hold(t, l, 0, 0, none)
	hold(t, l, 0, 1, "print(x$1);")
	hold(t, l, 1, 0, "const x$1 = 5;")
	l = linked(t, "import * as n from './b'; const m: any = n; print(m.x); print(n.x);", "export const x: number = 5;")
	hold(t, l, 0, 1, "const m$0 = $1;")
	hold(t, l, 0, 2, "print(m$0.x);")
	hold(t, l, 0, 3, "print(x$1);")
	l = linked(t, "import { g } from './b'; export const k: number = 1; print(g());", "import { k } from './a'; export function g(): number { return k; }")
	hold(t, l, 0, 1, "const k$0 = 1;")
	hold(t, l, 0, 2, "print(g$1());")
	hold(t, l, 1, 1, "function g$1() {\n  return k$0;\n}")
	l = linked(t, "import f from './b'; print(f());", "export default function f(): number { return 7; }")
	hold(t, l, 0, 1, "print(f$1());")
	hold(t, l, 1, 0, "function f$1() {\n  return 7;\n}")
}

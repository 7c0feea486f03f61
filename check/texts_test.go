package check

import (
	"fmt"
	"strings"
	"testing"

	"gusset/api"
	"gusset/graph"
	"gusset/link"
	"gusset/show"
	"gusset/sign"
	"gusset/tree"
	"gusset/types"
	"gusset/vfs"
)

func all(sources ...string) []string { return sources }

// linked are the modules /a.ts, /b.ts and so on, as far as the first one asks for them, and their signs.
func linked(t *testing.T, sources ...string) (api.Linked, api.Signs) {
	t.Helper()
	files := vfs.New()
	for i, s := range sources {
		if err := files.Write("/"+string(rune('a'+i))+".ts", s); err != api.OK {
			t.Fatalf("%.300q: the error %d", s, err)
		}
	}
	g, path, name, err := graph.Load(files, "/a")
	if err != api.OK {
		t.Fatalf("%.500q: %s %s: the error %d", sources, path, name, err)
	}
	return linkedGraph(t, g)
}

func linkedGraph(t *testing.T, g api.Graph) (api.Linked, api.Signs) {
	t.Helper()
	l, mod, name, err := link.Link(g)
	if err != api.OK {
		t.Fatalf("%d %s: the error %d", mod, name, err)
	}
	s, mod, err := sign.Sign(l)
	if err != api.OK {
		t.Fatalf("module %d is not signed: the error %d", mod, err)
	}
	return l, s
}

// textOf is a tree as source, on one line; of a part of a class its kind and name.
func textOf(n api.Node) string {
	switch n.Kind {
	case api.Field:
		return "field " + n.Text
	case api.Method:
		return "method " + n.Text
	}
	return strings.Join(strings.Fields(show.Show(n)), " ")
}

// textAt is the tree at a place of a module.
func textAt(l api.Linked, mod, at int) string {
	n, ok := tree.At(l.Graph.Mods[mod].Tree, at)
	if !ok {
		return fmt.Sprintf("no place %d", at)
	}
	return textOf(n)
}

// isWell holds that types can be given to modules.
func isWell(t *testing.T, sources ...string) {
	t.Helper()
	l, s := linked(t, sources...)
	if mod, at, err := Check(l, s); mod != 0 || at != 0 || err != api.OK {
		t.Errorf("%.500q: module %d, %d (%.200s), the error %d; want none", sources, mod, at, textAt(l, mod, at), err)
	}
}

// isRefused holds the error of one module, and the text of the tree at which it is seen.
func isRefused(t *testing.T, source, text string, err api.Errno) {
	t.Helper()
	isRefusedAt(t, all(source), 0, text, err)
}

func isRefusedAt(t *testing.T, sources []string, mod int, text string, err api.Errno) {
	t.Helper()
	l, s := linked(t, sources...)
	gotMod, at, got := Check(l, s)
	if gotMod != mod || got != err || textAt(l, gotMod, at) != text {
		t.Errorf("%.500q: module %d, %d (%.200s), the error %d; want %d, %.200s, %d", sources, gotMod, at, textAt(l, gotMod, at), got, mod, text, err)
	}
}

// placeOf is the last place of a module at which a text stands.
func placeOf(t *testing.T, l api.Linked, mod int, text string) int {
	t.Helper()
	place := -1
	for at, n := range tree.All(l.Graph.Mods[mod].Tree) {
		if textOf(n) == text {
			place = at
		}
	}
	if place < 0 {
		t.Fatalf("%q stands nowhere", text)
	}
	return place
}

// isType holds the type of the last expression of the first module that has that text.
func isType(t *testing.T, sources []string, text, want string) {
	t.Helper()
	l, s := linked(t, sources...)
	got, err := TypeOf(l, s, 0, placeOf(t, l, 0, text))
	if err != api.OK || types.Show(got) != want {
		t.Errorf("%.500q: %s is %s, the error %d; want %s", sources, text, types.Show(got), err, want)
	}
}

// told tells a type in full, so that two are told alike just if they are the same; a list that is empty may be nil.
func told(t api.Type) string {
	return string(appendTold(nil, t))
}

func appendTold(s []byte, t api.Type) []byte {
	s = fmt.Appendf(s, "%d/%d%q[", t.Kind, t.N, t.Names)
	for _, part := range t.List {
		s = append(appendTold(s, part), ' ')
	}
	return append(s, ']')
}

// isZero tells whether a type is none.
func isZero(t api.Type) bool {
	return t.Kind == 0 && t.N == 0 && t.Names == nil && t.List == nil
}

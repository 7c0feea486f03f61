package sign

import (
	"fmt"
	"strings"
	"testing"

	"gusset/api"
	"gusset/graph"
	"gusset/lex"
	"gusset/link"
	"gusset/parse"
	"gusset/types"
	"gusset/vfs"
)

func all(sources ...string) []string { return sources }

// linked are the modules /a.ts, /b.ts and so on, as far as the first one asks for them.
func linked(t *testing.T, sources ...string) api.Linked {
	t.Helper()
	files := vfs.New()
	for i, s := range sources {
		if err := files.Write("/"+string(rune('a'+i))+".ts", s); err != api.OK {
			t.Fatalf("%.300q: the error %d", s, err)
		}
	}
	return linkedFiles(t, files, "/a")
}

func linkedFiles(t *testing.T, files *vfs.Table, entry string) api.Linked {
	t.Helper()
	g, path, name, err := graph.Load(files, entry)
	if err != api.OK {
		t.Fatalf("%s %s: the error %d", path, name, err)
	}
	l, mod, name, err := link.Link(g)
	if err != api.OK {
		t.Fatalf("%d %s: the error %d", mod, name, err)
	}
	return l
}

// tree reads a type's tree.
func tree(text string) api.Node {
	l, _, err := lex.Lex(text, true)
	n, end, err2 := parse.Type(l, 0)
	if err != api.OK || err2 != api.OK || end != len(l) {
		panic("no type: " + text)
	}
	return n
}

// told tells a type in full, so that two are told alike just if they are the same; a list that is empty may be nil.
func told(t api.Type) string {
	return string(appendTold(nil, t))
}

func appendTold(s []byte, t api.Type) []byte {
	s = fmt.Appendf(s, "%d/%d%q[", t.Kind, t.N, t.Names)
	for _, part := range t.List {
		s = append(appendTold(s, part), ' ')
	}
	return append(s, ']')
}

// toldSigns tells Signs in full.
func toldSigns(s api.Signs) string {
	text := ""
	slots := func(l []api.Slot) {
		for _, one := range l {
			text += fmt.Sprintf("%q %s; ", one.Name, told(one.Type))
		}
		text += "\n"
	}
	for _, c := range s.Classes {
		text += fmt.Sprintf("%d %q: ", c.Mod, c.Name)
		for _, p := range c.Params {
			text += told(p) + ", "
		}
		slots(c.Members)
	}
	text += "tops\n"
	for _, l := range s.Tops {
		slots(l)
	}
	return text
}

// brief are the tops of each module in a line, as types.Show has their types.
func brief(s api.Signs) []string {
	var lines []string
	for _, l := range s.Tops {
		lines = append(lines, briefSlots(l))
	}
	return lines
}

func briefSlots(l []api.Slot) string {
	var texts []string
	for _, one := range l {
		texts = append(texts, one.Name+": "+types.Show(one.Type))
	}
	return strings.Join(texts, "; ")
}

// briefClasses are the classes, each in a line: its module, its name, its parameters, its members.
func briefClasses(s api.Signs) []string {
	var lines []string
	for _, c := range s.Classes {
		var params []string
		for _, p := range c.Params {
			params = append(params, types.Show(p))
		}
		lines = append(lines, fmt.Sprintf("%d %s(%s) { %s }", c.Mod, c.Name, strings.Join(params, ", "), briefSlots(c.Members)))
	}
	return lines
}

// isEmpty tells whether Signs have nothing.
func isEmpty(s api.Signs) bool {
	return s.Classes == nil && s.Tops == nil
}

// isZero tells whether a type is none.
func isZero(t api.Type) bool {
	return t.Kind == 0 && t.N == 0 && t.Names == nil && t.List == nil
}

// signsOf are the signs of modules that have no error.
func signsOf(t *testing.T, sources ...string) api.Signs {
	t.Helper()
	s, mod, err := Sign(linked(t, sources...))
	if mod != 0 || err != api.OK {
		t.Fatalf("%q: module %d, the error %d", sources, mod, err)
	}
	return s
}

// isTops holds the tops of each module.
func isTops(t *testing.T, sources []string, want ...string) {
	t.Helper()
	s := signsOf(t, sources...)
	if got := strings.Join(brief(s), "\n"); got != strings.Join(want, "\n") || len(s.Tops) != len(want) {
		t.Errorf("%q:\n%s\nwant\n%s", sources, got, strings.Join(want, "\n"))
	}
}

// isClasses holds the classes.
func isClasses(t *testing.T, sources []string, want ...string) {
	t.Helper()
	if got := strings.Join(briefClasses(signsOf(t, sources...)), "\n"); got != strings.Join(want, "\n") {
		t.Errorf("%q:\n%s\nwant\n%s", sources, got, strings.Join(want, "\n"))
	}
}

// isRefused holds the error of modules, and the number of the module of its item.
func isRefused(t *testing.T, sources []string, mod int, err api.Errno) {
	t.Helper()
	s, gotMod, got := Sign(linked(t, sources...))
	if gotMod != mod || got != err || !isEmpty(s) {
		t.Errorf("%.300q: module %d, the error %d, %s; want %d, %d", sources, gotMod, got, brief(s), mod, err)
	}
}

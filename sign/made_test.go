package sign

import (
	"fmt"
	"math/rand"
	"slices"
	"strings"
	"testing"

	"gusset/api"
	"gusset/graph"
	"gusset/link"
	"gusset/types"
	"gusset/vfs"
)

// Here stands what the chapter says, word for word, by other ways than the package's; and modules that are made by chance.

// topOf is the top of a module that has a name.
func topOf(l api.Linked, mod int, name string) (api.Top, bool) {
	for _, top := range l.Scopes[mod].Tops {
		if top.Name == name {
			return top, true
		}
	}
	return api.Top{}, false
}

// classNumber counts the classes of all modules, up to the one with that place in that module.
func classNumber(l api.Linked, mod, at int) int {
	count := 0
	for m := 0; m <= mod; m++ {
		for _, top := range l.Scopes[m].Tops {
			if top.Kind == api.Class && (m < mod || top.At < at) {
				count++
			}
		}
	}
	return count
}

// declaration is the tree that declares a top.
func declaration(l api.Linked, mod int, top api.Top) api.Node {
	n := l.Graph.Mods[mod].Tree.Kids[top.Item]
	if n.Kind != top.Kind {
		n = n.Kids[0]
	}
	return n
}

// saysTop is what a class or alias says; what was asked for on the way to it is asked for still.
func saysTop(l api.Linked, mod int, name string, asked []string) (api.Type, api.Errno) {
	top, _ := topOf(l, mod, name)
	switch top.Kind {
	case api.Class:
		return api.Type{Kind: api.TypeInst, N: classNumber(l, mod, top.At)}, api.OK
	case api.Alias:
		this := fmt.Sprint(mod, name)
		if slices.Contains(asked, this) {
			return api.Type{}, api.ErrType
		}
		return says(l, mod, declaration(l, mod, top).Kids[0], append(slices.Clip(asked), this))
	}
	return api.Type{}, api.ErrType
}

// says is what a tree of types says in a module.
func says(l api.Linked, mod int, n api.Node, asked []string) (api.Type, api.Errno) {
	if n.Kind == api.TypeName {
		if at := slices.Index([]string{"any", "number", "string", "boolean", "null", "undefined"}, n.Text); at >= 0 {
			return api.Type{Kind: api.TypeAny + at}, api.OK
		}
		top, ok := topOf(l, mod, n.Text)
		if ok && top.Kind == api.ImportOne {
			f := link.Target(l, mod, api.Use{Kind: api.UseImport, Name: n.Text})
			if f.Kind != api.FoundOne {
				return api.Type{}, api.ErrType
			}
			return saysTop(l, f.Mod, f.Name, asked)
		}
		return saysTop(l, mod, n.Text, asked)
	}
	t := api.Type{Kind: map[int]int{api.TypeArray: api.TypeList, api.TypeFunc: api.TypeFn}[n.Kind]}
	var kids []api.Node
	switch n.Kind {
	case api.TypeArray, api.TypeUnion:
		kids = n.Kids
	case api.TypeObject:
		for _, prop := range n.Kids {
			kids = append(kids, prop.Kids[0])
		}
	case api.TypeFunc:
		for _, param := range n.Kids[0].Kids {
			kids = append(kids, param.Kids[0])
		}
		kids = append(kids, n.Kids[1])
	}
	for _, k := range kids {
		part, err := says(l, mod, k, asked)
		if err != api.OK {
			return api.Type{}, err
		}
		t.List = append(t.List, part)
	}
	switch n.Kind {
	case api.TypeUnion:
		return types.Union(t.List...)
	case api.TypeObject:
		var slots []api.Slot
		for i, prop := range n.Kids {
			slots = append(slots, api.Slot{Name: prop.Text, Type: t.List[i]})
		}
		return types.Record(slots)
	}
	return unlessLarge(t)
}

func unlessLarge(t api.Type) (api.Type, api.Errno) {
	if types.Size(t) > 300 {
		return api.Type{}, api.ErrComplex
	}
	return t, api.OK
}

// saysOrAny is what a tree says, where None may stand.
func saysOrAny(l api.Linked, mod int, n api.Node) (api.Type, api.Errno) {
	if n.Kind == api.None {
		return api.Type{Kind: api.TypeAny}, api.OK
	}
	return says(l, mod, n, nil)
}

// fnOfTree is the TypeFn of a Function or Method.
func fnOfTree(l api.Linked, mod int, n api.Node) (api.Type, api.Errno) {
	t := api.Type{Kind: api.TypeFn}
	var kids []api.Node
	for _, param := range n.Kids[0].Kids {
		kids = append(kids, param.Kids[0])
	}
	for _, k := range append(kids, n.Kids[1]) {
		part, err := saysOrAny(l, mod, k)
		if err != api.OK {
			return api.Type{}, err
		}
		t.List = append(t.List, part)
	}
	return unlessLarge(t)
}

// put puts a slot among those that rise.
func put(l []api.Slot, s api.Slot) []api.Slot {
	at := 0
	for at < len(l) && l[at].Name < s.Name {
		at++
	}
	return slices.Insert(l, at, s)
}

// infoOf is a class's ClassInfo.
func infoOf(l api.Linked, mod int, class api.Node) (api.ClassInfo, api.Errno) {
	info := api.ClassInfo{Mod: mod, Name: class.Text}
	for _, n := range class.Kids {
		var t api.Type
		err := api.OK
		switch n.Kind {
		case api.Field:
			t, err = saysOrAny(l, mod, n.Kids[0])
		case api.Method:
			t, err = fnOfTree(l, mod, n)
		case api.Ctor:
			for _, param := range n.Kids[0].Kids {
				p, err := saysOrAny(l, mod, param.Kids[0])
				if err != api.OK {
					return info, err
				}
				info.Params = append(info.Params, p)
			}
			continue
		}
		if err != api.OK {
			return info, err
		}
		info.Members = put(info.Members, api.Slot{Name: n.Text, Type: t})
	}
	return info, api.OK
}

// byWords is 16.1.
func byWords(l api.Linked) (api.Signs, int, api.Errno) {
	s := api.Signs{}
	for mod, m := range l.Graph.Mods {
		var tops []api.Slot
		for _, n := range m.Tree.Kids {
			if n.Kind == api.Export || n.Kind == api.Default {
				n = n.Kids[0]
			}
			var t api.Type
			err := api.OK
			switch {
			case n.Kind == api.Let && n.Kids[0].Kind != api.None, n.Kind == api.Alias:
				t, err = says(l, mod, n.Kids[0], nil)
			case n.Kind == api.Function:
				t, err = fnOfTree(l, mod, n)
			case n.Kind == api.Class:
				t = api.Type{Kind: api.TypeClass, N: len(s.Classes)}
				var info api.ClassInfo
				info, err = infoOf(l, mod, n)
				s.Classes = append(s.Classes, info)
			default:
				continue
			}
			if err != api.OK {
				return api.Signs{}, mod, err
			}
			tops = put(tops, api.Slot{Name: n.Text, Type: t})
		}
		s.Tops = append(s.Tops, tops)
	}
	return s, 0, api.OK
}

// A planned module is its items: those whose order plays a part, and the others.
type planned struct {
	fixed, free []string
	names       []string          // those that may be used as types
	words       map[string]string // what stands ahead of a declaration
	exported    []string
}

// A maker makes modules by chance.
type maker struct {
	*rand.Rand
	mods []*planned
}

func (m *maker) one(l ...string) string { return l[m.Intn(len(l))] }

// tree is a type's source, of names that may be used.
func (m *maker) tree(deep int, names []string) string {
	if deep <= 1 || m.Intn(4) == 0 {
		if len(names) > 0 && m.Intn(2) == 0 {
			return m.one(names...)
		}
		return m.one("number", "string", "boolean", "null", "undefined", "any", "number", "string")
	}
	inner := func() string { return m.tree(deep-1, names) }
	switch m.Intn(9) {
	case 0, 1:
		return "(" + inner() + ")[]"
	case 2, 3:
		l := []string{inner(), inner()}
		for m.Intn(3) == 0 {
			l = append(l, inner())
		}
		return "(" + strings.Join(l, " | ") + ")"
	case 4, 5:
		s := ""
		for _, i := range m.Perm(5)[:m.Intn(4)] {
			s += []string{"a", "b", "aa", "if", "Z"}[i] + ": " + inner() + "; "
		}
		return "{ " + s + "}"
	case 6:
		return "((x: " + inner() + ", y: " + inner() + ") => " + inner() + ")"
	case 7:
		if m.Intn(3) == 0 {
			return "{ " + props(20+m.Intn(280)) + "}"
		}
	}
	return "(() => " + inner() + ")"
}

// perhaps is a type that may stand behind a name, or seldom nothing.
func (m *maker) perhaps(names []string) string {
	if m.Intn(4) == 0 {
		return ""
	}
	return ": " + m.tree(3, names)
}

func (m *maker) params(names []string) string {
	var l []string
	for i := range m.Intn(4) {
		l = append(l, fmt.Sprintf("p%d%s", i, m.perhaps(names)))
	}
	return "(" + strings.Join(l, ", ") + ")"
}

// class is a class's source.
func (m *maker) class(name string, names []string) string {
	s := "class " + name + " { "
	for _, i := range m.Perm(6)[:m.Intn(5)] {
		switch i {
		case 0, 1, 2:
			s += []string{"f", "B", "if"}[i] + m.perhaps(names) + " = null; "
		case 3, 4:
			s += []string{"", "", "", "m", "A"}[i] + m.params(names) + m.perhaps(names) + " { } "
		case 5:
			s += "constructor" + m.params(names) + " { } "
		}
	}
	return s + "}"
}

// name chooses the names of a module, and how each is exported; seldom one is not, and asked for nevertheless.
func (m *maker) name(p *planned) {
	for _, name := range []string{"a", "b", "c", "K", "L"} {
		if m.Intn(4) == 0 {
			continue
		}
		p.names = append(p.names, name)
		way, as := m.Intn(20), name
		switch {
		case way == 0:
		case way < 4 && strings.Contains("KL", name) && !slices.Contains(p.exported, "default"):
			p.words[name], as = "export default ", "default"
		case way < 8:
			p.free = append(p.free, "export "+m.one("", "type ")+"{ "+name+" };")
		default:
			p.words[name] = "export "
		}
		p.exported = append(p.exported, as)
	}
}

// ask adds imports, and what is exported of other modules.
func (m *maker) ask(p *planned) {
	for _, here := range []string{"p", "q"} {
		target := m.Intn(len(m.mods))
		from := fmt.Sprintf(" from './%c';", 'a'+target)
		if len(m.mods[target].exported) == 0 {
			continue
		}
		there := m.one(m.mods[target].exported...)
		switch m.Intn(5) {
		case 0:
			p.fixed = append(p.fixed, "export { "+there+" as "+here+" }"+from)
			p.exported = append(p.exported, here)
		case 1:
			p.fixed = append(p.fixed, "export type { "+there+" as "+here+" }"+from)
			p.exported = append(p.exported, here)
		case 2:
			p.fixed = append(p.fixed, "import type { "+there+" as "+here+" }"+from)
			p.names = append(p.names, here)
		default:
			p.fixed = append(p.fixed, "import { "+there+" as "+here+" }"+from)
			p.names = append(p.names, here)
		}
	}
	if m.Intn(3) == 0 {
		p.fixed = append(p.fixed, fmt.Sprintf("export * from './%c';", 'a'+m.Intn(len(m.mods))))
	}
}

// fill adds what is declared. Most aliases are of names behind their own, so that there are not too many circles.
func (m *maker) fill(p *planned) {
	for i, name := range p.names {
		later := p.names[i+1:]
		if m.Intn(15) == 0 {
			later = p.names
		}
		switch {
		case strings.Contains("pq", name):
		case strings.Contains("KL", name):
			p.fixed = append(p.fixed, p.words[name]+m.class(name, p.names))
		default:
			p.free = append(p.free, p.words[name]+"type "+name+" = "+m.tree(1+m.Intn(4), later)+";")
		}
	}
	for _, name := range []string{"x", "y"} {
		p.free = append(p.free, m.one("let ", "export const ")+name+m.perhaps(p.names)+" = null;")
	}
	p.free = append(p.free, m.one("", "export ")+"function f"+m.params(p.names)+m.perhaps(p.names)+" { }", "print(1);")
	if m.Intn(3) == 0 {
		p.free = append(p.free, "{ let x: "+m.tree(2, p.names)+" = 1; function g(a: "+m.tree(2, p.names)+") { } }")
	}
}

// modules are some planned ones; each asks for the next one.
func (m *maker) modules() {
	m.mods = nil
	for range 1 + m.Intn(3) {
		m.mods = append(m.mods, &planned{words: map[string]string{}})
	}
	for _, p := range m.mods {
		m.name(p)
	}
	for i, p := range m.mods {
		p.fixed = append(p.fixed, fmt.Sprintf("import './%c';", 'a'+min(i+1, len(m.mods)-1)))
		m.ask(p)
	}
	for _, p := range m.mods {
		m.fill(p)
	}
}

// sources are those of the modules: the items that are free stand anywhere, those that are fixed stay in their order.
func (m *maker) sources() []string {
	var sources []string
	for _, p := range m.mods {
		items := slices.Clone(p.fixed)
		for _, item := range p.free {
			items = slices.Insert(items, m.Intn(len(items)+1), item)
		}
		sources = append(sources, strings.Join(items, "\n"))
	}
	return sources
}

// linkedOr links sources, unless they are refused.
func linkedOr(t *testing.T, sources []string) (api.Linked, bool) {
	t.Helper()
	files := vfs.New()
	for i, s := range sources {
		if err := files.Write("/"+string(rune('a'+i))+".ts", s); err != api.OK {
			t.Fatal(err)
		}
	}
	g, path, name, err := graph.Load(files, "/a")
	if err != api.OK {
		t.Fatalf("%s %s: the error %d\n%s", path, name, err, strings.Join(sources, "\n---\n"))
	}
	l, _, _, err := link.Link(g)
	return l, err == api.OK
}

// made are linked modules by chance; false, if they are refused.
func made(t *testing.T, seed int64) (*maker, []string, api.Linked, bool) {
	t.Helper()
	m := &maker{Rand: rand.New(rand.NewSource(seed))}
	m.modules()
	sources := m.sources()
	l, ok := linkedOr(t, sources)
	return m, sources, l, ok
}

// 16.1: over many modules the same as the chapter's words; all errors are among them, and many without one.
func TestMade(t *testing.T) {
	count := map[api.Errno]int{}
	for seed := range int64(2500) {
		_, sources, l, ok := made(t, seed)
		if !ok {
			continue
		}
		got, mod, err := Sign(l)
		want, wantMod, wantErr := byWords(l)
		if toldSigns(got) != toldSigns(want) || mod != wantMod || err != wantErr {
			t.Fatalf("%d:\n%s\n%d %d %s\nwant %d %d %s", seed, strings.Join(sources, "\n---\n"), mod, err, toldSigns(got), wantMod, wantErr, toldSigns(want))
		}
		count[err]++
	}
	if count[api.OK] < 1200 || count[api.ErrType] < 300 || count[api.ErrComplex] < 100 {
		t.Error(count)
	}
}

// typeTrees are all trees of types within a tree, whole ones and those within others.
func typeTrees(n api.Node) []api.Node {
	var l []api.Node
	switch n.Kind {
	case api.TypeName, api.TypeArray, api.TypeUnion, api.TypeObject, api.TypeFunc:
		l = append(l, n)
	}
	for _, k := range n.Kids {
		l = append(l, typeTrees(k)...)
	}
	return l
}

// 16.2: each tree of each module says in each module what the chapter's words have it say, with Sign's answer and without one.
func TestMadeTypes(t *testing.T) {
	count := map[api.Errno]int{}
	for seed := range int64(400) {
		_, sources, l, ok := made(t, seed)
		if !ok {
			continue
		}
		s, _, _ := Sign(l)
		for from := range l.Graph.Mods {
			for _, n := range typeTrees(l.Graph.Mods[from].Tree) {
				mod := (from + int(seed)) % len(l.Graph.Mods)
				want, wantErr := says(l, mod, n, nil)
				for _, signs := range []api.Signs{s, {}} {
					got, err := Type(l, signs, mod, n)
					if told(got) != told(want) && err == api.OK || err != wantErr || err != api.OK && !isZero(got) {
						t.Fatalf("%d:\n%s\n%v in %d: %s, %d; want %s, %d", seed, strings.Join(sources, "\n---\n"), n, mod, types.Show(got), err, types.Show(want), wantErr)
					}
				}
				count[wantErr]++
			}
		}
	}
	if count[api.OK] < 10000 || count[api.ErrType] < 300 || count[api.ErrComplex] < 30 {
		t.Error(count)
	}
}

// 16.3: what is declared may be.
func TestDeclaredMayBe(t *testing.T) {
	for seed := range int64(1000) {
		_, sources, l, ok := made(t, seed)
		if !ok {
			continue
		}
		s, _, _ := Sign(l)
		var all []api.Type
		for _, l := range s.Tops {
			for _, one := range l {
				all = append(all, one.Type)
			}
		}
		for _, c := range s.Classes {
			all = append(all, c.Params...)
			for _, one := range c.Members {
				all = append(all, one.Type)
			}
		}
		for _, one := range all {
			if types.Check(one) != api.OK {
				t.Fatalf("%q: %s", sources, told(one))
			}
		}
	}
}

// 16.3: where items stand, but for imports and classes, plays no part, and so it is with what is no declaration.
func TestOrderOfItems(t *testing.T) {
	signed := 0
	for seed := range int64(1000) {
		m, sources, l, ok := made(t, seed)
		if !ok {
			continue
		}
		s, _, err := Sign(l)
		if err != api.OK {
			continue
		}
		for _, p := range m.mods {
			p.free = append(p.free, "print(2, f);", "let none = function (a: { a: any; }[]): null { return null; };", "{ let x: string = ''; }")
		}
		again := m.sources()
		l, _ = linkedOr(t, again)
		if other, _, err := Sign(l); err != api.OK || toldSigns(other) != toldSigns(s) {
			t.Fatalf("%s\n%s\n----\n%s\n%s", strings.Join(sources, "\n---\n"), toldSigns(s), strings.Join(again, "\n---\n"), toldSigns(other))
		}
		signed++
	}
	if signed < 400 {
		t.Error(signed)
	}
}

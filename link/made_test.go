package link

import (
	"fmt"
	"math/rand"
	"slices"
	"strings"
	"testing"

	"gusset/api"
	"gusset/exports"
	"gusset/order"
	"gusset/scope"
	"gusset/tree"
)

// An answer is what Link tells.
type answer struct {
	linked api.Linked
	mod    int
	name   string
	err    api.Errno
}

func link(g api.Graph) answer {
	l, mod, name, err := Link(g)
	return answer{l, mod, name, err}
}

func (a answer) String() string {
	s := fmt.Sprintf("%d %q %d\n", a.mod, a.name, a.err)
	for _, m := range a.linked.Graph.Mods {
		s += fmt.Sprintln(m.Path, m.Tree, m.Requests)
	}
	for _, one := range a.linked.Scopes {
		s += fmt.Sprintln(one)
	}
	for _, one := range a.linked.Entries {
		s += fmt.Sprintln(one)
	}
	for _, one := range a.linked.Founds {
		s += fmt.Sprintln(one)
	}
	return s
}

// byWords is 13.1 word for word.
func byWords(g api.Graph) answer {
	l := api.Linked{Graph: g}
	for mod, m := range g.Mods {
		s, _, err := scope.Resolve(m.Tree)
		if err != api.OK {
			return answer{mod: mod, err: err}
		}
		l.Scopes = append(l.Scopes, s)
		l.Entries = append(l.Entries, exports.Entries(m.Tree, m.Requests))
	}
	for mod, e := range l.Entries {
		var founds []api.Found
		for i, one := range slices.Concat(e.Imports, e.Others) {
			f := leadsTo(l, one)
			switch f.Kind {
			case api.FoundAmbiguous:
				return answer{mod: mod, name: one.There, err: api.ErrAmbiguous}
			case api.FoundCircular:
				return answer{mod: mod, name: one.There, err: api.ErrCircular}
			case api.FoundNone:
				return answer{mod: mod, name: one.There, err: api.ErrNoExport}
			}
			if i < len(e.Imports) {
				founds = append(founds, f)
			}
		}
		l.Founds = append(l.Founds, founds)
	}
	for mod := range g.Mods {
		if name, bad := wrongType(l, mod); bad {
			return answer{mod: mod, name: name, err: api.ErrType}
		}
	}
	return answer{linked: l}
}

func leadsTo(l api.Linked, e api.Entry) api.Found {
	if e.There == "*" {
		return api.Found{Kind: api.FoundSpace, Mod: e.Mod}
	}
	return exports.Resolve(l.Entries, e.Mod, e.There)
}

// wrongType is the third part of 13.1, of one module.
func wrongType(l api.Linked, mod int) (string, bool) {
	for _, u := range l.Scopes[mod].Uses {
		if u.Kind != api.UseImport {
			continue
		}
		at := slices.IndexFunc(l.Entries[mod].Imports, func(e api.Entry) bool { return e.Here == u.Name })
		i, f := l.Entries[mod].Imports[at], l.Founds[mod][at]
		n, _ := tree.At(l.Graph.Mods[mod].Tree, u.At)
		if n.Kind == api.TypeName && !isOneOf(l, f, api.Alias, api.Class) {
			return u.Name, true
		}
		if n.Kind != api.TypeName && n.Kind != api.ExportOne && (!toValue(l, f) || i.Type) {
			return u.Name, true
		}
	}
	for item := range l.Graph.Mods[mod].Tree.Kids {
		for _, e := range l.Entries[mod].Own {
			if e.Item == item && e.Type && !isOneOf(l, api.Found{Kind: api.FoundOne, Mod: mod, Name: e.Here}, api.Alias, api.Class) {
				return e.Here, true
			}
		}
		for _, e := range l.Entries[mod].Others {
			if e.Item == item && e.Type && !isOneOf(l, leadsTo(l, e), api.Alias, api.Class) {
				return e.There, true
			}
		}
	}
	return "", false
}

func isOneOf(l api.Linked, f api.Found, kinds ...int) bool {
	return f.Kind == api.FoundOne && slices.ContainsFunc(l.Scopes[f.Mod].Tops, func(top api.Top) bool {
		return top.Name == f.Name && slices.Contains(kinds, top.Kind)
	})
}

func toValue(l api.Linked, f api.Found) bool {
	return !f.Type && (f.Kind == api.FoundSpace || isOneOf(l, f, api.Let, api.Function, api.Class, api.Default))
}

// A planned module is what its source is made of, and what it is thought to export: t a type, v a value, c both.
type planned struct {
	items    []string
	exported map[string]string
	imported map[string]string
	stars    int
}

// A maker makes modules by chance, most of which are right.
type maker struct {
	*rand.Rand
	mods []*planned
}

func (m *maker) one(l ...string) string { return l[m.Intn(len(l))] }

func (m *maker) seldom() bool { return m.Intn(20) == 0 }

// give has a name exported, unless it is (or seldom, though it is).
func (m *maker) give(p *planned, name, what, item string) {
	if p.exported[name] == "" || m.seldom() && m.seldom() {
		p.exported[name] = what
		p.items = append(p.items, item)
	}
}

// declare adds the module's own names.
func (m *maker) declare(p *planned) {
	for _, name := range []string{"a", "b", "c", "d"} {
		form, what := "let ? = 1;", "v"
		switch m.Intn(6) {
		case 0:
			continue
		case 1:
			form = "function ?() { }"
		case 2:
			form, what = "class ? { }", "c"
		case 3, 4:
			form, what = "type ? = number;", "t"
		}
		form = fill(form, name)
		switch m.Intn(5) {
		case 0:
			p.items = append(p.items, form)
		case 1:
			p.items = append(p.items, form)
			m.give(p, name, what, "export { "+name+" };")
		case 2:
			p.items = append(p.items, form)
			if what != "v" || m.seldom() {
				m.give(p, name, "t", "export type { "+name+" };")
			}
		default:
			m.give(p, name, what, "export "+form)
		}
	}
	switch m.Intn(5) {
	case 0:
		m.give(p, "default", "v", "export default 1;")
	case 1:
		m.give(p, "default", "c", "export default class e { }")
	case 2:
		m.give(p, "default", "v", "export default function e() { }")
	}
}

// pick is a name that a module is thought to export, or seldom another one.
func (m *maker) pick(from *planned) (string, string) {
	var names []string
	for name := range from.exported {
		names = append(names, name)
	}
	slices.Sort(names)
	if from.stars > 0 && m.Intn(4) == 0 {
		return m.one("a", "b", "c", "d"), "c"
	}
	if len(names) == 0 || m.seldom() {
		return m.one("a", "b", "c", "d", "default", "f", "g", "h", "i", "n"), "c"
	}
	name := m.one(names...)
	return name, from.exported[name]
}

// ask adds an item that asks for another module.
func (m *maker) ask(p *planned) {
	target := m.Intn(len(m.mods))
	request := fmt.Sprintf(" from './%c';", 'a'+target)
	there, what := m.pick(m.mods[target])
	here := m.one("p", "q", "r", "s")
	switch m.Intn(10) {
	case 0, 1, 2:
		p.stars++
		p.items = append(p.items, "export *"+request)
		return
	case 3:
		m.give(p, "n", "v", "export * as n"+request)
		return
	case 4:
		m.get(p, here, "v", "import * as "+here+request)
		return
	}
	as := m.one("f", "g", "h", "i")
	switch m.Intn(6) {
	case 0:
		m.give(p, as, what, "export { "+there+" as "+as+" }"+request)
	case 1:
		if what != "v" || m.seldom() {
			m.give(p, as, "t", "export type { "+there+" as "+as+" }"+request)
		}
	case 2:
		if what != "v" || m.seldom() {
			m.get(p, here, "t", "import type { "+there+" as "+here+" }"+request)
		}
	default:
		m.get(p, here, what, "import { "+there+" as "+here+" }"+request)
	}
}

func (m *maker) get(p *planned, here, what, item string) {
	if p.imported[here] == "" {
		p.imported[here] = what
		p.items = append(p.items, item)
	}
}

// use adds uses of what is imported.
func (m *maker) use(p *planned) {
	for _, here := range []string{"p", "q", "r", "s"} {
		what := p.imported[here]
		if what == "" {
			continue
		}
		if m.seldom() {
			what = m.one("t", "v", "c")
		}
		if m.Intn(3) == 0 {
			as := m.one("f", "g", "h", "i", "default", here)
			if m.Intn(3) == 0 && (what != "v" || m.seldom()) {
				m.give(p, as, "t", "export type { "+here+" as "+as+" };")
			} else {
				m.give(p, as, what, "export { "+here+" as "+as+" };")
			}
		}
		forms := slices.Concat(valueUses, typeUses)
		switch what {
		case "t":
			forms = typeUses
		case "v":
			forms = valueUses
		}
		for range m.Intn(3) {
			// The names that the uses declare would stand twice.
			use := strings.ReplaceAll(strings.ReplaceAll(m.one(forms...), "z", here), "export ", "")
			use = strings.ReplaceAll(strings.ReplaceAll(use, "default "+here+";", here+";"), "U", fmt.Sprint("U", len(p.items)))
			p.items = append(p.items, strings.ReplaceAll(use, " u", fmt.Sprint(" u", len(p.items))))
		}
	}
}

// sources are some modules; each asks for the next one.
func (m *maker) sources() []string {
	m.mods = nil
	for range 1 + m.Intn(4) {
		m.mods = append(m.mods, &planned{exported: map[string]string{}, imported: map[string]string{}})
	}
	for _, p := range m.mods {
		m.declare(p)
	}
	for i, p := range m.mods {
		p.items = append(p.items, fmt.Sprintf("import './%c';", 'a'+min(i+1, len(m.mods)-1)))
		for range m.Intn(6) {
			m.ask(p)
		}
	}
	var l []string
	for _, p := range m.mods {
		m.use(p)
		if m.Intn(100) == 0 {
			p.items = append(p.items, m.one("none;", "let a = 1;", "import { a } from './a';", "return;", "let x: none = 1;"))
		}
		m.Shuffle(len(p.items), func(i, j int) { p.items[i], p.items[j] = p.items[j], p.items[i] })
		l = append(l, strings.Join(p.items, "\n"))
	}
	return l
}

// made are modules by chance.
func made(t *testing.T, seed int64) ([]string, api.Graph) {
	t.Helper()
	m := &maker{Rand: rand.New(rand.NewSource(seed))}
	sources := m.sources()
	return sources, loaded(t, sources...)
}

// 13.1: over many modules the same as the chapter's words; all errors are among them, and many without one.
func TestMade(t *testing.T) {
	told := map[api.Errno]int{}
	for seed := range int64(8000) {
		sources, g := made(t, seed)
		got, want := link(g), byWords(g)
		if got.String() != want.String() {
			t.Fatalf("%d:\n%s\ngot %s\nwant %s", seed, strings.Join(sources, "\n---\n"), got, want)
		}
		told[got.err]++
	}
	for _, err := range []api.Errno{api.ErrTwice, api.ErrName, api.ErrThis, api.ErrAmbiguous, api.ErrCircular, api.ErrNoExport, api.ErrType} {
		if told[err] < 15 || told[api.OK] < 4000 {
			t.Errorf("the error %d came %d times of %v", err, told[err], told)
		}
	}
}

// isExportOne tells whether a use of a module is an ExportOne's.
func isExportOne(l api.Linked, mod int, u api.Use) bool {
	n, _ := tree.At(l.Graph.Mods[mod].Tree, u.At)
	return n.Kind == api.ExportOne
}

// reached are all bindings and namespaces to which an entry leads over entries that are not of types alone.
func reached(l api.Linked, e api.Entry) map[api.Found]bool {
	founds, seen := map[api.Found]bool{}, map[binding]bool{}
	var walk func(e api.Entry)
	walk = func(e api.Entry) {
		at := binding{e.Mod, e.There}
		if e.Type || seen[at] {
			return
		}
		seen[at] = true
		if e.There == "*" {
			founds[api.Found{Kind: api.FoundSpace, Mod: e.Mod}] = true
			return
		}
		for _, own := range l.Entries[e.Mod].Own {
			if own.There == e.There {
				founds[api.Found{Kind: api.FoundOne, Mod: e.Mod, Name: own.Here}] = true
			}
		}
		for _, other := range l.Entries[e.Mod].Others {
			if other.Here == e.There {
				walk(other)
			}
		}
		for _, star := range l.Entries[e.Mod].Stars {
			walk(api.Entry{There: e.There, Mod: star.Mod})
		}
	}
	walk(e)
	return founds
}

// 13.4: what a value use says is a value's top, or a namespace, of a module that is evaluated with its own, and it is reached by no request of types alone.
func TestValueWays(t *testing.T) {
	uses := 0
	for seed := range int64(4000) {
		_, g := made(t, seed)
		l, _, _, err := Link(g)
		if err != api.OK {
			continue
		}
		edges := order.Edges(g, false)
		for mod := range g.Mods {
			evaluated := order.Order(edges, mod)
			for _, u := range l.Scopes[mod].Uses {
				if u.Type || u.Kind != api.UseImport && u.Kind != api.UseTop || isExportOne(l, mod, u) {
					continue
				}
				f := Target(l, mod, u)
				if !Value(l, f) || !slices.Contains(evaluated, f.Mod) {
					t.Fatalf("%d: %v of %d: %v", seed, u, mod, f)
				}
				for _, e := range l.Entries[mod].Imports {
					if u.Kind == api.UseImport && e.Here == u.Name && !reached(l, e)[f] {
						t.Fatalf("%d: %v of %d: %v, %v", seed, u, mod, f, reached(l, e))
					}
				}
				uses++
			}
		}
	}
	if uses < 1000 {
		t.Errorf("there were %d uses", uses)
	}
}

// spoil changes a graph somewhere.
func (m *maker) spoil(g *api.Graph) {
	mod := &g.Mods[m.Intn(len(g.Mods))]
	switch m.Intn(6) {
	case 0:
		mod.Requests[m.Intn(len(mod.Requests))].Target = m.Intn(8) - 2
	case 1:
		mod.Requests[m.Intn(len(mod.Requests))].Item = m.Intn(8) - 2
	case 2:
		mod.Requests = mod.Requests[:m.Intn(len(mod.Requests))+1]
	case 3:
		mod.Tree = g.Mods[m.Intn(len(g.Mods))].Tree
	case 4:
		g.Mods = g.Mods[m.Intn(len(g.Mods)):]
	case 5:
		at := m.Intn(tree.Size(mod.Tree))
		n, _ := tree.At(mod.Tree, at)
		n.N = 1 - n.N
		mod.Tree, _ = tree.Replace(mod.Tree, at, n)
	}
}

// R1, R7: graphs that no layer makes are linked by the same words, or refused.
func TestSpoilt(t *testing.T) {
	linked := 0
	for seed := range int64(4000) {
		_, g := made(t, seed)
		m := &maker{Rand: rand.New(rand.NewSource(seed))}
		for range 1 + m.Intn(3) {
			m.spoil(&g)
		}
		got, want := link(g), byWords(g)
		if got.String() != want.String() {
			t.Fatalf("%d: %v\ngot %s\nwant %s", seed, g, got, want)
		}
		if got.err == api.OK {
			linked++
		}
	}
	if linked < 500 {
		t.Errorf("%d were linked", linked)
	}
}

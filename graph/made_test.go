package graph

import (
	"fmt"
	"math/rand"
	"strings"
	"testing"

	"gusset/api"
	"gusset/module"
	"gusset/path"
	"gusset/vfs"
)

// askingForms are items with a request, which stands where the ? does; those of types alone have the word type.
var askingForms = []string{
	"import '?';", "import d from '?';", "import { a as b, c } from '?';", "import * as n from '?';", "import d, * as n from '?';", "import { } from '?';", "import type { T } from '?';", "import type T from '?';",
	"export { a } from '?';", "export { default as a } from '?';", "export type { T } from '?';", "export * from '?';", "export * as n from '?';",
}

// otherForms are items without a request.
var otherForms = []string{
	"let a = 1;", "export const b = './x';", "export { a };", "export type { a };", "export { a as default };", "export default './x';", "print('./x');", "type U = number;", "class C { }", "{ }", "function f() { }", "if (a) { b; }", "'./x';", "export default function g() { }", "export class D { x = './x'; }",
}

// badForms are what no module may have.
var badForms = []string{"let;", "#", "9007199254740992;", "import { if } from './a';", "export * from '';", "'", strings.Repeat("(", 500), strings.Repeat("!", 200) + "a;"}

// An ask is a request that a source was written with.
type ask struct {
	text  string
	types bool
	item  int
}

// A written source, and the requests in it.
type written struct {
	source string
	asks   []ask
}

func (w *written) add(item string) {
	w.source += item + "\n"
}

func (w *written) request(form, text string, item int) {
	w.add(strings.ReplaceAll(form, "?", text))
	w.asks = append(w.asks, ask{text, strings.Contains(form, " type "), item})
}

// A model is a table of written sources.
type model map[string]written

func (m model) table() *vfs.Table {
	t := vfs.New()
	for p, w := range m {
		t.Write(p, w.source)
	}
	return t
}

// A left is what the walk has still to do: the request of that number of a module.
type left struct{ mod, number int }

// A walker does 10.3's walk over a model, with what is left to do in a row, and holds each path that it asked for.
type walker struct {
	files model
	graph api.Graph
	left  []left
	seen  map[string]bool
}

// found is the file at a path, the first of three.
func (w *walker) found(p string) string {
	for _, end := range []string{"", ".ts", "/index.ts"} {
		if len(p+end) > 200 {
			continue
		}
		w.seen[p+end] = true
		if _, has := w.files[p+end]; has {
			return p + end
		}
	}
	return ""
}

// reached tells the number of a file's module, a new one if there is room, and whether it cannot be read.
func (w *walker) reached(file string) (number int, err api.Errno) {
	for i, m := range w.graph.Mods {
		if m.Path == file {
			return i, api.OK
		}
	}
	number = len(w.graph.Mods)
	if number > 63 {
		return 0, api.ErrMany
	}
	n, _, err := module.Module(w.files[file].source)
	m := api.Mod{Path: file, Tree: n}
	for i := range w.files[file].asks {
		w.left = append(w.left, left{number, len(w.files[file].asks) - 1 - i})
		m.Requests = append(m.Requests, api.Request{Text: w.files[file].asks[i].text, Type: w.files[file].asks[i].types, Item: w.files[file].asks[i].item})
	}
	w.graph.Mods = append(w.graph.Mods, m)
	return number, err
}

// expected is what Load answers of a model's table, and the paths that were asked for.
func expected(files model, entry string) (answer, map[string]bool) {
	w := &walker{files: files, seen: map[string]bool{}}
	p, err := path.Normal(entry)
	from, text := "", entry
	for mod, number := -1, 0; ; {
		if err != api.OK {
			return answer{path: from, name: text, err: err}, w.seen
		}
		file := w.found(p)
		if file == "" {
			return answer{path: from, name: text, err: api.ErrNoFile}, w.seen
		}
		target, err2 := w.reached(file)
		if err2 == api.ErrMany {
			return answer{path: from, name: text, err: err2}, w.seen
		}
		if err2 != api.OK {
			return answer{path: file, err: err2}, w.seen
		}
		if mod >= 0 {
			w.graph.Mods[mod].Requests[number].Target = target
		}
		if len(w.left) == 0 {
			return answer{graph: w.graph}, w.seen
		}
		next := w.left[len(w.left)-1]
		w.left = w.left[:len(w.left)-1]
		mod, number = next.mod, next.number
		from, text = w.graph.Mods[mod].Path, w.graph.Mods[mod].Requests[number].Text
		p, err = path.Join(from, text)
	}
}

// held tells whether Load answers of a model's table what the walk does.
func held(t *testing.T, files model, entry string) (answer, map[string]bool) {
	t.Helper()
	want, seen := expected(files, entry)
	if got := load(files.table(), entry); got.String() != want.String() {
		t.Fatalf("%q of %v:\ngot  %s\nwant %s", entry, files, got, want)
	}
	return want, seen
}

// 10.3: all tables of three modules with up to two requests each, of one another and of what is not there.
func TestSmall(t *testing.T) {
	var rows []written
	texts := []string{"./a", "./b", "./c", "./d"}
	for first := range 5 {
		for second := range 5 {
			if first == 0 && second > 0 {
				continue
			}
			var w written
			for i, which := range []int{first, second} {
				if which > 0 {
					w.request("import '?';", texts[which-1], i)
				}
			}
			rows = append(rows, w)
		}
	}
	count := map[api.Errno]int{}
	for _, a := range rows {
		for _, b := range rows {
			for _, c := range rows {
				want, _ := held(t, model{"/a": a, "/b.ts": b, "/c/index.ts": {source: c.source, asks: c.asks}, "/c/a": {}}, "/a")
				count[want.err]++
			}
		}
	}
	if count[api.OK] < 500 || count[api.ErrNoFile] < 500 || len(rows) != 21 {
		t.Error(len(rows), "rows;", count)
	}
}

// A maker makes tables by chance, the same of the same number.
type maker struct{ *rand.Rand }

func one[T any](m maker, l []T) T {
	return l[m.Intn(len(l))]
}

var (
	places = []string{"/a", "/b", "/c", "/x/a", "/x/b", "/x/y/a", "/x", "/x/y"}
	ends   = []string{"", ".ts", ".ts", "/index.ts"}
	near   = []string{"./a", "./b", "./a.ts", "./b/../a", "./c", "../a", "../b", "./x", "./y", "./index.ts"}
	wrong  = []string{"a", "", "/a", "./a b", "./../../../../a", "./none", "." + long(201), "./", "./z/../b"}
)

// request leads from a file to another place, mostly.
func (m maker) request(file string, rare int) string {
	if m.Intn(rare) < 3 {
		return one(m, near)
	}
	up := strings.Repeat("../", strings.Count(file, "/")-1)
	if up == "" {
		up = "./"
	}
	return up + one(m, places)[1:] + one(m, []string{"", "", "", ".ts", "/"})
}

// source is a module of some items, of which about one of rare is wrong.
func (m maker) source(file string, rare int) written {
	var w written
	for item := range m.Intn(5) {
		switch {
		case m.Intn(rare) == 0 && m.Intn(2) == 0:
			w.add(one(m, badForms))
		case m.Intn(rare) == 0:
			w.request(one(m, askingForms[:8]), one(m, wrong), item)
		case m.Intn(3) == 0:
			w.add(one(m, otherForms))
		default:
			w.request(one(m, askingForms), m.request(file, rare), item)
		}
	}
	return w
}

// model has most of the places at which a request may find something, or all.
func (m maker) model() model {
	files := model{}
	rare, holes := 20+m.Intn(300), m.Intn(3)
	for _, p := range places {
		for _, end := range ends {
			if m.Intn(4) < 2 {
				files[p+end] = m.source(p+end, rare)
			}
		}
		if m.Intn(20) >= holes {
			files[p+".ts"] = m.source(p+".ts", rare)
		}
	}
	return files
}

func (m maker) entry() string {
	return one(m, []string{"/a", "/a", "/x/a", "/x", "/x/../b", "/c.ts", "/x/y/", "/c/./index.ts", "a", "/none"})
}

// 10.3: made tables; all errors are met, and graphs of many modules.
func TestMade(t *testing.T) {
	errors, sizes := map[api.Errno]int{}, map[int]int{}
	for seed := range int64(20000) {
		m := maker{rand.New(rand.NewSource(seed))}
		want, _ := held(t, m.model(), m.entry())
		errors[want.err]++
		sizes[len(want.graph.Mods)]++
	}
	for _, err := range []api.Errno{api.OK, api.ErrPath, api.ErrLong, api.ErrNoFile, api.ErrSyntax, api.ErrSign, api.ErrNumber, api.ErrDeep} {
		if errors[err] < 50 {
			t.Errorf("only %d tables with %d", errors[err], err)
		}
	}
	for n := range 10 {
		if n > 0 && sizes[n] < 50 {
			t.Errorf("only %d graphs of %d modules", sizes[n], n)
		}
	}
}

// some is a module of some requests, of the modules /m0 and so on up to n.
func (m maker) some(n int) written {
	var w written
	for item := range 1 + m.Intn(6) {
		w.request(one(m, askingForms), fmt.Sprint("./m", m.Intn(n)), item)
	}
	return w
}

// 10.3: made tables of about as many modules as may be; those that chance left out are asked for by one of them at last.
func TestMadeMany(t *testing.T) {
	errors := map[api.Errno]int{}
	for seed := range int64(400) {
		m := maker{rand.New(rand.NewSource(seed))}
		n := 61 + m.Intn(8)
		files := model{}
		for i := range n {
			files[fmt.Sprint("/m", i)+one(m, ends[:3])] = m.some(n)
		}
		want, _ := held(t, files, "/m0")
		errors[want.err]++
		var all written
		for item, to := range m.Perm(n) {
			all.request("import '?';", fmt.Sprint("./m", to), item)
		}
		files[fmt.Sprint("/m", m.Intn(n))] = all
		want, _ = held(t, files, "/m0")
		errors[want.err]++
	}
	if errors[api.OK] < 200 || errors[api.ErrMany] < 200 {
		t.Error(errors)
	}
}

// 10.4: what lies at paths that are not probed plays no part, nor does the order of writes, nor what was there and was removed.
func TestProbedAlone(t *testing.T) {
	changed := 0
	for seed := range int64(4000) {
		m := maker{rand.New(rand.NewSource(seed))}
		files, entry := m.model(), m.entry()
		want, seen := expected(files, entry)
		other := vfs.New()
		for _, p := range places {
			for _, end := range ends {
				other.Write(p+end, "let;")
			}
		}
		for p := range seen {
			if w, has := files[p]; has {
				other.Write(p, w.source)
			} else {
				other.Remove(p)
			}
		}
		if got := load(other, entry); got.String() != want.String() {
			t.Fatalf("%q of %v, but that other files are there:\ngot  %s\nwant %s", entry, files, got, want)
		}
		for _, f := range other.Files() {
			if !seen[f.Path] {
				other.Remove(f.Path)
				changed++
			}
		}
		if got := load(other, entry); got.String() != want.String() {
			t.Fatalf("%q of %v, but that other files are not there:\ngot  %s\nwant %s", entry, files, got, want)
		}
	}
	if changed < 10000 {
		t.Error("only", changed, "files that are not probed")
	}
}

// 10.4: a probed path at which a file comes to be, or is no more, may change what is answered, and then just as the walk says.
func TestProbedChanged(t *testing.T) {
	for seed := range int64(600) {
		m := maker{rand.New(rand.NewSource(seed))}
		files, entry := m.model(), m.entry()
		_, seen := expected(files, entry)
		for p := range seen {
			was, has := files[p]
			if has {
				delete(files, p)
			} else {
				files[p] = written{source: "print(1);"}
			}
			held(t, files, entry)
			if has {
				files[p] = was
			} else {
				delete(files, p)
			}
		}
	}
}

// 10.4: each module but the first is asked for by an earlier one; no path stands twice; each target is the module that its request leads to.
func TestAskedFor(t *testing.T) {
	count := 0
	for seed := range int64(4000) {
		m := maker{rand.New(rand.NewSource(seed))}
		files := m.model().table()
		g, _, _, err := Load(files, m.entry())
		if err != api.OK {
			continue
		}
		paths, asked := map[string]bool{}, map[int]bool{0: true}
		for i, mod := range g.Mods {
			if paths[mod.Path] || !asked[i] {
				t.Fatalf("%v: the module %d", g, i)
			}
			paths[mod.Path] = true
			for _, r := range mod.Requests {
				asked[r.Target] = true
				p, err := path.Join(mod.Path, r.Text)
				if file, has := Probe(files, p); err != api.OK || !has || file != g.Mods[r.Target].Path {
					t.Fatalf("%v: %v of the module %d", g, r, i)
				}
			}
			count++
		}
	}
	if count < 2000 {
		t.Error("only", count, "modules")
	}
}

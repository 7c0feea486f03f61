package graph

import (
	"fmt"
	"strings"
	"testing"

	"gusset/api"
	"gusset/module"
	"gusset/vfs"
)

// table is a table of files that are told as a path and its source, one after the other.
func table(files ...string) *vfs.Table {
	t := vfs.New()
	for i := 0; i < len(files); i += 2 {
		t.Write(files[i], files[i+1])
	}
	return t
}

// An answer is what Load answers.
type answer struct {
	graph      api.Graph
	path, name string
	err        api.Errno
}

func load(t *vfs.Table, entry string) answer {
	g, p, n, err := Load(t, entry)
	return answer{g, p, n, err}
}

// String tells two answers apart, but not a nil list from an empty one.
func (a answer) String() string {
	return fmt.Sprintf("%+v %q %q %d", a.graph, a.path, a.name, a.err)
}

// refused holds what Load answers against an error, and against no modules.
func refused(t *testing.T, files *vfs.Table, entry, path, name string, err api.Errno) {
	t.Helper()
	if got := load(files, entry); got.path != path || got.name != name || got.err != err || len(got.graph.Mods) > 0 {
		t.Errorf("Load(%.220q): %.900s, want %.220q %.220q %d", entry, got, path, name, err)
	}
}

// loaded holds the paths, and behind each the numbers of its targets, against what is wanted: /a.ts 1 1, /b.ts, ..
func loaded(t *testing.T, files *vfs.Table, entry, want string) api.Graph {
	t.Helper()
	got := load(files, entry)
	var mods []string
	for _, m := range got.graph.Mods {
		one := m.Path
		for _, r := range m.Requests {
			one += fmt.Sprint(" ", r.Target)
		}
		mods = append(mods, one)
	}
	if told := strings.Join(mods, ", "); told != want || got.path != "" || got.name != "" || got.err != api.OK {
		t.Errorf("Load(%.220q): %s, %q %q %d, want %s", entry, told, got.path, got.name, got.err, want)
	}
	return got.graph
}

// read is the tree of a source.
func read(t *testing.T, source string) api.Node {
	t.Helper()
	n, at, err := module.Module(source)
	if err != api.OK {
		t.Fatalf("%q: %d at %d", source, err, at)
	}
	return n
}

// requested holds what Requests answers against what is wanted.
func requested(t *testing.T, n api.Node, want ...api.Request) {
	t.Helper()
	if got := Requests(n); fmt.Sprint(got) != fmt.Sprint(want) {
		t.Errorf("%v: %v, want %v", n, got, want)
	}
}

// 10.1: each form of an import and of an export from another module is a request, of types alone or not.
func TestRequestsForms(t *testing.T) {
	for _, form := range askingForms {
		source := strings.ReplaceAll(form, "?", "./x")
		requested(t, read(t, source), api.Request{Text: "./x", Type: strings.Contains(form, " type ")})
	}
}

// 10.1: no other item is one, whatever stands in it.
func TestRequestsNone(t *testing.T) {
	for _, source := range otherForms {
		requested(t, read(t, source))
	}
	requested(t, read(t, strings.Join(otherForms, "\n")))
	requested(t, read(t, ""))
}

// 10.1: requests come in the order of their items, with these numbers; the same one comes each time; an import's may be empty.
func TestRequestsOrder(t *testing.T) {
	n := read(t, "print(1); import './z'; export { a }; let a = 1; export * from './y'; import type { T } from './z'; export type { T }; export type { T as U } from './y'; import './z'; import d from ''; import type { V } from '';")
	requested(t, n,
		api.Request{Text: "./z", Item: 1},
		api.Request{Text: "./y", Item: 4},
		api.Request{Text: "./z", Type: true, Item: 5},
		api.Request{Text: "./y", Type: true, Item: 7},
		api.Request{Text: "./z", Item: 8},
		api.Request{Text: "", Item: 9},
		api.Request{Text: "", Type: true, Item: 10})
}

// 10.1: the request is the text that the source says, whether it could lead anywhere or not.
func TestRequestsTexts(t *testing.T) {
	for _, text := range []string{"x", "/x", "..", ".", " ", "./ä", "./a b", "./a\\nb", strings.Repeat("./x", 200)} {
		source := "import '" + text + "'; export * from '" + text + "';"
		text = strings.ReplaceAll(text, "\\n", "\n")
		requested(t, read(t, source), api.Request{Text: text}, api.Request{Text: text, Item: 1})
	}
}

// 10.1: a tree of another kind has none, whatever its kids are.
func TestRequestsOtherKinds(t *testing.T) {
	n := read(t, "import './x'; export * from './x';")
	for kind := -1; kind < 75; kind++ {
		m := api.Node{Kind: kind, Text: "./y", Kids: n.Kids}
		if kind == api.Module {
			requested(t, m, api.Request{Text: "./x"}, api.Request{Text: "./x", Item: 1})
		} else {
			requested(t, m)
		}
	}
	for _, m := range n.Kids {
		requested(t, m)
	}
	requested(t, api.Node{})
	requested(t, api.Node{Kind: api.Module, Kids: []api.Node{n, {Kind: api.Block, Kids: n.Kids}}})
}

// 10.1: of all kinds of items just these ask; of types alone is one whose N is 1.
func TestRequestsOfMadeItems(t *testing.T) {
	for kind := -1; kind < 75; kind++ {
		for _, text := range []string{"", "./x"} {
			for n := -1; n < 4; n++ {
				m := api.Node{Kind: api.Module, Kids: []api.Node{{Kind: kind, Text: text, N: n}}}
				if kind == api.Import || kind == api.ExportFrom && text != "" {
					requested(t, m, api.Request{Text: text, Type: n == 1})
				} else {
					requested(t, m)
				}
			}
		}
	}
}

func probed(t *testing.T, files *vfs.Table, p, want string) {
	t.Helper()
	if got, ok := Probe(files, p); got != want || ok != (want != "") {
		t.Errorf("Probe(%.220q): %.220q, %t, want %.220q", p, got, ok, want)
	}
}

// 10.2: the first that the table has, of each choice of files.
func TestProbe(t *testing.T) {
	for _, p := range []string{"/b", "/x/b", "/b.ts", "/b/index.ts", "b", "", "/x y", "/\xff"} {
		names := []string{p, p + ".ts", p + "/index.ts"}
		for set := range 8 {
			files := table("/bb", "", p+"x", "", p+".tsx", "", p+"/index", "", p+".ts/index.ts", "", "/index.ts.ts", "")
			found := 3
			for i := 2; i >= 0; i-- {
				if set>>i&1 == 1 {
					files.Write(names[i], "not a module")
					found = i
				}
			}
			want, has := "", found < 3
			if has {
				want = names[found]
			}
			if got, ok := Probe(files, p); got != want || ok != has {
				t.Errorf("Probe(%q) of %v: %q, %t", p, files.Files(), got, ok)
			}
		}
	}
}

// 10.2: a file that was removed is there no more; a nil table has none.
func TestProbeNone(t *testing.T) {
	files := table("/b", "1", "/b.ts", "2")
	probed(t, files, "/b", "/b")
	files.Remove("/b")
	probed(t, files, "/b", "/b.ts")
	files.Remove("/b.ts")
	probed(t, files, "/b", "")
	probed(t, nil, "/b", "")
	probed(t, nil, "", "")
	probed(t, &vfs.Table{}, "/b", "")
	probed(t, vfs.New(), "/b", "")
	probed(t, table("/a", "", "/b", ""), "/A", "")
	probed(t, table("/b", ""), "/a/../b", "")
}

// long is a path of one part with n bytes.
func long(n int) string {
	return "/" + strings.Repeat("x", n-1)
}

// 10.2: what has more than MaxPath bytes is not probed, though the table has it.
func TestProbeLong(t *testing.T) {
	for n := 180; n < 210; n++ {
		p := long(n)
		for _, end := range []string{"", ".ts", "/index.ts"} {
			want := p + end
			if len(want) > 200 {
				want = ""
			}
			probed(t, table(p+end, ""), p, want)
		}
	}
}

// 10.3: the chapter's examples.
func TestExamples(t *testing.T) {
	files := table("/a.ts", "import './b'; import './c';", "/b.ts", "import './c';", "/c.ts", "")
	loaded(t, files, "/a", "/a.ts 1 2, /b.ts 2, /c.ts")
	loaded(t, files, "/x/../a.ts", "/a.ts 1 2, /b.ts 2, /c.ts")
	refused(t, files, "a", "", "a", api.ErrPath)
	files.Write("/c.ts", "import './d';")
	refused(t, files, "/a", "/c.ts", "./d", api.ErrNoFile)
	files.Write("/b.ts", "let;")
	refused(t, files, "/a", "/b.ts", "", api.ErrSyntax)
	files.Write("/c.ts", "#")
	refused(t, files, "/a", "/b.ts", "", api.ErrSyntax)
	files.Write("/a.ts", "import './a';")
	loaded(t, files, "/a", "/a.ts 0")
	files = table("/a.ts", "import './b';", "/b", "", "/b.ts", "let;", "/b/index.ts", "let;")
	loaded(t, files, "/a", "/a.ts 1, /b")
}

// 10.3: a graph has all that a module is: its path, its tree, its requests.
func TestLoadWhole(t *testing.T) {
	a, b := "let y = 1; import { x } from './b'; export type { T } from './b';", "export type T = number; export const x: T = 1; import '../a.ts';"
	got := load(table("/a.ts", a, "/b/index.ts", b, "/c.ts", ""), "/./a")
	want := answer{graph: api.Graph{Mods: []api.Mod{
		{Path: "/a.ts", Tree: read(t, a), Requests: []api.Request{{Text: "./b", Item: 1, Target: 1}, {Text: "./b", Type: true, Item: 2, Target: 1}}},
		{Path: "/b/index.ts", Tree: read(t, b), Requests: []api.Request{{Text: "../a.ts", Item: 2, Target: 0}}},
	}}}
	if got.String() != want.String() {
		t.Errorf("%s, want %s", got, want)
	}
}

// 10.3: an entry that is no path, or at which no file is: the error with the entry as it was told.
func TestLoadEntry(t *testing.T) {
	files := table("/a.ts", "", "/d/index.ts", "", "a", "", "a.ts", "", "", "", "/", "", ".ts", "", "/x y", "", "/index.ts", "")
	for _, entry := range []string{"", "a", "./a", "../a", "/", "/..", "/../a", "/x y", "/a/..", "/ä", "\xff", "a.ts"} {
		refused(t, files, entry, "", entry, api.ErrPath)
	}
	for _, entry := range []string{"/b", "/x/../b", "/a.ts.ts", "/a.ts/index.ts", "//c//", "/A"} {
		refused(t, files, entry, "", entry, api.ErrNoFile)
	}
	for _, entry := range []string{"/a", "/a.ts", "//a", "/a/", "/./b/../a"} {
		loaded(t, files, entry, "/a.ts")
	}
	loaded(t, files, "/d", "/d/index.ts")
	loaded(t, files, "/d/index", "/d/index.ts")
	loaded(t, files, "/index", "/index.ts")
}

// 10.3: a nil table has no files; what is wrong with the entry is seen ahead.
func TestLoadNil(t *testing.T) {
	for _, files := range []*vfs.Table{nil, {}, vfs.New()} {
		refused(t, files, "/a", "", "/a", api.ErrNoFile)
		refused(t, files, "/x/../a", "", "/x/../a", api.ErrNoFile)
		refused(t, files, "a", "", "a", api.ErrPath)
		refused(t, files, "", "", "", api.ErrPath)
		refused(t, files, long(201), "", long(201), api.ErrLong)
	}
}

// 10.3: paths up to MaxPath bytes are found, of entries and of requests; those of more are ErrLong, or not probed.
func TestLoadLong(t *testing.T) {
	for _, p := range []string{long(200), long(197) + ".ts", long(191) + "/index.ts"} {
		files := table(p, "let a = 1;", "/m", "import '."+p+"';", "/n", "import '."+long(201)+"';", long(201), "")
		loaded(t, files, p, p)
		loaded(t, files, "/m", "/m 1, "+p)
		refused(t, files, "/n", "/n", "."+long(201), api.ErrLong)
		refused(t, files, long(201), "", long(201), api.ErrLong)
		loaded(t, files, long(5000)+"/.."+p, p)
	}
	for p, file := range map[string]string{long(198): long(198) + ".ts", long(192): long(192) + "/index.ts", long(200): long(200) + ".ts"} {
		files := table(file, "", "/m", "import '."+p+"';")
		refused(t, files, p, "", p, api.ErrNoFile)
		refused(t, files, "/m", "/m", "."+p, api.ErrNoFile)
	}
}

// 10.3: a request that Join refuses, or that leads to no file: the module's path and the request as it was told.
func TestLoadRequests(t *testing.T) {
	for _, form := range askingForms {
		for text, err := range map[string]api.Errno{"e": api.ErrPath, "/b.ts": api.ErrPath, "./b c": api.ErrPath, "../../b": api.ErrPath, "./.": api.OK, "./e": api.ErrNoFile, ".././e/": api.ErrNoFile, "./b.ts/": api.OK, "." + long(201): api.ErrLong, "./../b": api.OK} {
			files := table("/x/a.ts", strings.ReplaceAll(form, "?", text), "/b.ts", "", "/x/b.ts", "", "/x/index.ts", "", "e", "", "/e", "let;", "/x/e", "let;")
			files.Remove("/e")
			files.Remove("/x/e")
			if err == api.OK {
				if got := load(files, "/x/a"); got.err != api.OK || len(got.graph.Mods) != 2 || got.graph.Mods[0].Requests[0].Target != 1 {
					t.Errorf("%q of %q: %s", form, text, got)
				}
			} else {
				refused(t, files, "/x/a", "/x/a.ts", text, err)
			}
		}
	}
	refused(t, table("/a", "import '';"), "/a", "/a", "", api.ErrPath)
	refused(t, table("/a", "import './';"), "/a", "/a", "./", api.ErrPath)
	refused(t, table("/a", "import '../a';"), "/a", "/a", "../a", api.ErrPath)
	refused(t, table("/x", "import './y';", "/y", "import './z';"), "/x", "/y", "./z", api.ErrNoFile)
}

// 10.3: where a request leads is asked from the path that was found, not from the one that was asked for.
func TestLoadFromIndex(t *testing.T) {
	loaded(t, table("/d/index.ts", "import './e';", "/d/e.ts", "", "/e.ts", "let;"), "/d", "/d/index.ts 1, /d/e.ts")
	loaded(t, table("/a", "import './d';", "/d/index.ts", "import './e'; import '../a';", "/d/e.ts", ""), "/a", "/a 1, /d/index.ts 2 0, /d/e.ts")
}

// 10.3: two requests that are told otherwise lead to one module; the same text leads elsewhere from another folder.
func TestLoadSame(t *testing.T) {
	loaded(t, table("/a.ts", "import './b'; import './b.ts'; import './x/../b'; export * from './b'; import type { T } from './b'; import './a';", "/b.ts", "import './b'; import './a.ts';"), "/a", "/a.ts 1 1 1 1 1 0, /b.ts 1 0")
	loaded(t, table("/a.ts", "import './b'; import './d/a'; import './d/b';", "/b.ts", "", "/d/a.ts", "import './b'; import '../b';", "/d/b.ts", "import './b'; import './a';"), "/a", "/a.ts 1 2 3, /b.ts, /d/a.ts 3 1, /d/b.ts 3 2")
}

// 10.3: modules are numbered as they are met, depth first.
func TestLoadDepthFirst(t *testing.T) {
	files := table("/a", "import './b'; import './e'; import './c';", "/b", "import './c'; import './d';", "/c", "import './f';", "/d", "", "/e", "import './d'; import './g';", "/f", "import './a';", "/g", "")
	loaded(t, files, "/a", "/a 1 5 2, /b 2 4, /c 3, /f 0, /d, /e 4 6, /g")
	loaded(t, files, "/c", "/c 1, /f 2, /a 3 5 0, /b 0 4, /d, /e 4 6, /g")
}

// 10.3: a source's error, of whatever kind, comes with its path and no name, and ahead of what its requests lead to.
func TestLoadSources(t *testing.T) {
	for source, err := range map[string]api.Errno{
		"import './none'; let;":                     api.ErrSyntax,
		"import './none'; '":                        api.ErrSign,
		"import 'none'; \xff":                       api.ErrSign,
		"import './c'; 9007199254740992;":           api.ErrNumber,
		"import './c'; namespace n { a = b; }":      api.ErrSyntax,
		"import './c'; " + strings.Repeat("(", 500): api.ErrDeep,
		"import './none'":                           api.ErrSyntax,
		"a" + strings.Repeat(".b", 200) + ";":       api.ErrDeep,
	} {
		files := table("/a", "import './b'; import './c';", "/b", source, "/c", "#")
		refused(t, files, "/a", "/b", "", err)
		refused(t, files, "/b", "/b", "", err)
		refused(t, files, "/c", "/c", "", api.ErrSign)
	}
	loaded(t, table("/a", ""), "/a", "/a")
	loaded(t, table("/a", "// let;"), "/a", "/a")
}

// 10.3: of several errors the one that the walk meets first.
func TestLoadFirst(t *testing.T) {
	files := table("/a", "import './b'; import './none'; import 'none';", "/b", "import './c'; import 'z';", "/c", "import './d';", "/d", "import '../d'; import './none';")
	refused(t, files, "/a", "/d", "../d", api.ErrPath)
	files.Write("/d", "")
	refused(t, files, "/a", "/b", "z", api.ErrPath)
	files.Write("/b", "import './c';")
	refused(t, files, "/a", "/a", "./none", api.ErrNoFile)
	files.Write("/none", "let;")
	refused(t, files, "/a", "/none", "", api.ErrSyntax)
	files.Write("/none", "")
	refused(t, files, "/a", "/a", "none", api.ErrPath)
}

// chain is a table of n modules, /m0 and so on, each of which asks for the next one; the last one has the source that is told.
func chain(n int, last string) *vfs.Table {
	t := vfs.New()
	for i := range n - 1 {
		t.Write(fmt.Sprint("/m", i), fmt.Sprint("import './m", i+1, "';"))
	}
	t.Write(fmt.Sprint("/m", n-1), last)
	return t
}

// 10.3: 64 modules may be, one within the other.
func TestLoadManyDeep(t *testing.T) {
	for n := 1; n < 70; n++ {
		if n > 64 {
			refused(t, chain(n, ""), "/m0", "/m63", "./m64", api.ErrMany)
		} else if got := load(chain(n, ""), "/m0"); got.err != api.OK || len(got.graph.Mods) != n {
			t.Errorf("of %d modules: %s", n, got)
		}
	}
	loaded(t, chain(65, ""), "/m63", "/m63 1, /m64")
}

// 10.3: 64 modules may be, one beside the other; of types alone they count as well.
func TestLoadManyWide(t *testing.T) {
	for n := 60; n < 70; n++ {
		files, source := vfs.New(), ""
		for i := 1; i < n; i++ {
			source += fmt.Sprint("import type { T } from './m", i, "';")
			files.Write(fmt.Sprint("/m", i, ".ts"), "import './a';")
		}
		files.Write("/a", source)
		if n > 64 {
			refused(t, files, "/a", "/a", "./m64", api.ErrMany)
		} else if got := load(files, "/a"); got.err != api.OK || len(got.graph.Mods) != n || got.graph.Mods[n-1].Requests[0] != (api.Request{Text: "./a"}) {
			t.Errorf("of %d modules: %s", n, got)
		}
	}
}

// 10.3: past 64 modules: those that were visited may be asked for, one without a path or file has its own error, and no other source is read.
func TestLoadManyFirst(t *testing.T) {
	got := load(chain(64, "import './m0'; import './m63'; import './m1';"), "/m0")
	if got.err != api.OK || fmt.Sprint(got.graph.Mods[63].Requests) != fmt.Sprint([]api.Request{{Text: "./m0", Target: 0}, {Text: "./m63", Item: 1, Target: 63}, {Text: "./m1", Item: 2, Target: 1}}) {
		t.Error(got)
	}
	for text, err := range map[string]api.Errno{"./none": api.ErrNoFile, "none": api.ErrPath, "../m0": api.ErrPath, "." + long(201): api.ErrLong, "./bad": api.ErrMany, "./good": api.ErrMany, "./x/../good.ts": api.ErrMany} {
		files := chain(64, "import './m0'; import '"+text+"'; import 'none';")
		files.Write("/bad", "let;")
		files.Write("/good.ts", "")
		refused(t, files, "/m0", "/m63", text, err)
	}
	files := chain(64, "import './bad';")
	files.Write("/bad", "let;")
	refused(t, files, "/m1", "/bad", "", api.ErrSyntax)
	files = chain(64, "let;")
	refused(t, files, "/m0", "/m63", "", api.ErrSyntax)
	files = chain(64, "")
	files.Write("/m30", "import './m31'; import './m64';")
	files.Write("/m64", "")
	refused(t, files, "/m0", "/m30", "./m64", api.ErrMany)
}

// 10.3: a file as long as a file may be, of the same request many times, and of many.
func TestLoadManyRequests(t *testing.T) {
	const n = api.MaxBytes / len("import './b';")
	source := strings.Repeat("import './b';", n)
	g, _, _, err := Load(table("/a", source, "/b", source), "/a")
	if err != api.OK || len(g.Mods) != 2 || len(g.Mods[0].Requests) != n || len(g.Mods[1].Requests) != n {
		t.Fatal("error", err)
	}
	for _, m := range g.Mods {
		for i, r := range m.Requests {
			if r != (api.Request{Text: "./b", Item: i, Target: 1}) {
				t.Fatal(i, r)
			}
		}
	}
	files := chain(64, "")
	source = ""
	for i := 0; len(source) < api.MaxBytes-20; i++ {
		source += fmt.Sprint("import './m", i%65, "';")
	}
	files.Write("/m20", source)
	refused(t, files, "/m0", "/m20", "./m64", api.ErrNoFile)
}

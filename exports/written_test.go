package exports

import (
	"math/rand"
	"strings"
	"testing"

	"gusset/api"
)

// A writer writes a module by chance, the same of the same number, and what its entries are, list by list.
type writer struct {
	*rand.Rand
	source   []string
	requests []api.Request
	imports  []api.Entry
	here     []hereOne
	lists    [4][]listed
}

// A hereOne is an ExportOne without a request: what it says hangs on imports that may come later.
type hereOne struct {
	text, exported string
	types          bool
	item, one      int
}

// A listed entry, and where it stands among those of its list: by its item, and its number there.
type listed struct {
	entry     api.Entry
	item, one int
}

func pick[T any](r *rand.Rand, l ...T) T {
	return l[r.Intn(len(l))]
}

func (w *writer) id() string {
	return pick(w.Rand, "a", "b", "c", "d", "from", "as", "type", "ä")
}

func (w *writer) prop() string {
	return pick(w.Rand, w.id(), w.id(), "default", "if")
}

// request is a text, and the module to which it leads; sometimes nobody tells where.
func (w *writer) request() int {
	target := w.Intn(9)
	if w.Intn(8) == 0 {
		return -1
	}
	w.requests = append(w.requests, api.Request{Text: "./m", Item: len(w.source), Target: target})
	return target
}

func (w *writer) list(k int, e api.Entry, one int) {
	e.Item = len(w.source)
	w.lists[k] = append(w.lists[k], listed{e, e.Item, one})
	if k == 0 {
		w.imports = append(w.imports, e)
	}
}

// names are some of an item, each told by one, with commas between.
func (w *writer) names(least int, one func(i int) string) string {
	var l []string
	for i := range least + w.Intn(4) {
		l = append(l, one(i))
	}
	s := strings.Join(l, ", ")
	if len(l) > 0 && w.Intn(3) == 0 {
		s += ","
	}
	return "{ " + s + " }"
}

func (w *writer) importItem() {
	mod, types := w.request(), w.Intn(4) == 0
	text, least := "import ", 0
	if types {
		text, least = "import type ", 1
	}
	first := 0
	if w.Intn(3) == 0 {
		here := pick(w.Rand, "a", "b", "g")
		w.list(0, api.Entry{Here: here, There: "default", Mod: mod, Type: types}, 0)
		text += here
		first = 1
	}
	switch {
	case first == 1 && w.Intn(2) == 0:
	case !types && w.Intn(3) == 0:
		here := w.id()
		w.list(0, api.Entry{Here: here, There: "*", Mod: mod}, first)
		text += strings.Repeat(", ", first) + "* as " + here
	default:
		text += strings.Repeat(", ", first) + w.names(least, func(i int) string {
			here, there := w.id(), w.prop()
			w.list(0, api.Entry{Here: here, There: there, Mod: mod, Type: types}, first+i)
			if here == there {
				return here
			}
			return there + " as " + here
		})
	}
	w.source = append(w.source, text+" from './m';")
}

func (w *writer) declaration() {
	name := w.id()
	form := pick(w.Rand, "let ? = 1;", "const ?: number = 1;", "function ?() { return ?; }", "class ? { }", "type ? = number;")
	w.list(1, api.Entry{Here: name, There: name, Mod: -1, Type: strings.HasPrefix(form, "type")}, 0)
	w.source = append(w.source, "export "+strings.ReplaceAll(form, "?", name))
}

func (w *writer) defaultItem() {
	name := w.id()
	form := pick(w.Rand, "function ?() { }", "class ? { }", "?;", "'?';", "{ ?: 1 };", "?.?;", "new ?();", "(function () { return ?; });", "1;")
	here := "default"
	if form == "function ?() { }" || form == "class ? { }" {
		here = name
	}
	w.list(1, api.Entry{Here: here, There: "default", Mod: -1}, 0)
	w.source = append(w.source, "export default "+strings.ReplaceAll(form, "?", name))
}

// as is an ExportOne of two names.
func (w *writer) as(there, exported string) string {
	if there == exported && w.Intn(2) == 0 {
		return there
	}
	return there + " as " + exported
}

func (w *writer) exportHere() {
	text, types := "export ", w.Intn(3) == 0
	if types {
		text += "type "
	}
	text += w.names(1, func(i int) string {
		one := hereOne{w.id(), w.prop(), types, len(w.source), i}
		w.here = append(w.here, one)
		return w.as(one.text, one.exported)
	})
	w.source = append(w.source, text+";")
}

func (w *writer) exportThere() {
	mod := w.request()
	text := ""
	switch w.Intn(4) {
	case 0:
		w.list(3, api.Entry{Mod: mod}, 0)
		text = "*"
	case 1:
		exported := w.prop()
		w.list(2, api.Entry{Here: exported, There: "*", Mod: mod}, 0)
		text = "* as " + exported
	default:
		types := w.Intn(3) == 0
		if types {
			text = "type "
		}
		text += w.names(1, func(i int) string {
			there, exported := w.prop(), w.prop()
			w.list(2, api.Entry{Here: exported, There: there, Mod: mod, Type: types}, i)
			return w.as(there, exported)
		})
	}
	w.source = append(w.source, "export "+text+" from './m';")
}

func (w *writer) other() {
	w.source = append(w.source, pick(w.Rand, "print(a);", "let a = 1;", "type a = b;", "{ let b = 1; }", "class c { }", "a = b;"))
}

// settle puts the exports of the module itself where they belong, now that all imports are known.
func (w *writer) settle() {
	for _, one := range w.here {
		k, e := 1, api.Entry{Here: one.text, There: one.exported, Mod: -1, Type: one.types, Item: one.item}
		for i := len(w.imports) - 1; i >= 0; i-- {
			if from := w.imports[i]; from.Here == one.text {
				k, e = 2, api.Entry{Here: one.exported, There: from.There, Mod: from.Mod, Type: one.types || from.Type, Item: one.item}
			}
		}
		// Each list is by items, and of one item by its ones.
		at := 0
		for at < len(w.lists[k]) && (w.lists[k][at].item < one.item || w.lists[k][at].item == one.item && w.lists[k][at].one < one.one) {
			at++
		}
		l := append([]listed{}, w.lists[k][:at]...)
		w.lists[k] = append(append(l, listed{e, one.item, one.one}), w.lists[k][at:]...)
	}
}

func written(seed int64) *writer {
	w := &writer{Rand: rand.New(rand.NewSource(seed))}
	for range w.Intn(9) {
		pick(w.Rand, w.importItem, w.importItem, w.declaration, w.defaultItem, w.exportHere, w.exportHere, w.exportThere, w.exportThere, w.other)()
	}
	w.settle()
	w.Shuffle(len(w.requests), func(i, j int) { w.requests[i], w.requests[j] = w.requests[j], w.requests[i] })
	return w
}

func (w *writer) want() [4]string {
	var want [4]string
	for k, list := range w.lists {
		var l []api.Entry
		for _, one := range list {
			l = append(l, one.entry)
		}
		want[k] = toldAll(l)
	}
	return want
}

// 12.1: written modules; all lists are long at times, and exports of imports are met, of those behind them too.
func TestWritten(t *testing.T) {
	most, moved := [4]int{}, 0
	for seed := range int64(20000) {
		w := written(seed)
		source := strings.Join(w.source, "\n")
		n := read(t, source)
		if len(n.Kids) != len(w.source) {
			t.Fatalf("%q: %d items of %d", source, len(n.Kids), len(w.source))
		}
		got, want := lists(Entries(n, w.requests)), w.want()
		if got != want {
			t.Fatalf("%s\nwith %v:\ngot  %q\nwant %q", source, w.requests, got, want)
		}
		for k := range most {
			most[k] = max(most[k], len(w.lists[k]))
		}
		for _, one := range w.here {
			for _, from := range w.imports {
				if from.Here == one.text && from.Item > one.item {
					moved++
				}
			}
		}
	}
	if most[0] < 10 || most[1] < 10 || most[2] < 10 || most[3] < 3 || moved < 1000 {
		t.Error(most, "entries at most;", moved, "exports of imports behind them")
	}
}

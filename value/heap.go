package value

import (
	"strings"

	"gusset/api"
)

// Heap: see the chapter.
type Heap struct {
	// places hold a *list or an object each; they are asked which by assertions.
	places []any
	texts  texts
}

// list is held by its pointer, as it would have to be laid into its place again whenever it grows.
type list struct {
	values []api.Value
}

type object map[string]api.Value

// New: see the chapter.
func New() *Heap {
	return &Heap{}
}

// Array: see the chapter.
func (h *Heap) Array(l []api.Value) api.Value {
	if h == nil {
		return api.Value{}
	}
	made := &list{}
	for _, v := range l {
		h.push(made, v)
	}
	return h.place(api.ValueArray, made)
}

// Object: see the chapter.
func (h *Heap) Object(names []string, l []api.Value) api.Value {
	if h == nil {
		return api.Value{}
	}
	made := object{}
	for i := range min(len(names), len(l)) {
		h.set(made, names[i], l[i])
	}
	return h.place(api.ValueObject, made)
}

// Len: see the chapter.
func (h *Heap) Len(v api.Value) int {
	if l, ok := h.list(v); ok {
		return len(l.values)
	}
	return 0
}

// Get: see the chapter.
func (h *Heap) Get(v api.Value, name string) (api.Value, bool) {
	o, ok := h.object(v)
	if !ok {
		return api.Value{}, false
	}
	x, ok := o[name]
	return handed(x), ok
}

// Set: see the chapter.
func (h *Heap) Set(v api.Value, name string, x api.Value) bool {
	o, ok := h.object(v)
	if ok {
		h.set(o, name, x)
	}
	return ok
}

// At: see the chapter.
func (h *Heap) At(v api.Value, i int) (api.Value, bool) {
	l, ok := h.list(v)
	if !ok || i < 0 || i >= len(l.values) {
		return api.Value{}, false
	}
	return handed(l.values[i]), true
}

// Put: see the chapter.
func (h *Heap) Put(v api.Value, i int, x api.Value) bool {
	l, ok := h.list(v)
	switch {
	case !ok || i < 0 || i > len(l.values):
		return false
	case i == len(l.values):
		h.push(l, x)
	default:
		old := l.values[i]
		l.values[i] = h.kept(x)
		h.texts.drop(old.Text)
	}
	return true
}

// Push: see the chapter.
func (h *Heap) Push(v, x api.Value) bool {
	l, ok := h.list(v)
	if ok {
		h.push(l, x)
	}
	return ok
}

// place lays what was made behind all that was made ahead, and tells the value that leads to it.
func (h *Heap) place(kind int, made any) api.Value {
	h.places = append(h.places, made)
	return api.Value{Kind: kind, N: len(h.places) - 1}
}

// at is what the place of a value holds, nil if there is no such place.
func (h *Heap) at(v api.Value) any {
	if h == nil || v.N < 0 || v.N >= len(h.places) {
		return nil
	}
	return h.places[v.N]
}

func (h *Heap) list(v api.Value) (*list, bool) {
	if v.Kind != api.ValueArray {
		return nil, false
	}
	l, ok := h.at(v).(*list)
	return l, ok
}

func (h *Heap) object(v api.Value) (object, bool) {
	if v.Kind != api.ValueObject {
		return nil, false
	}
	o, ok := h.at(v).(object)
	return o, ok
}

func (h *Heap) push(l *list, x api.Value) {
	l.values = append(l.values, h.kept(x))
}

func (h *Heap) set(o object, name string, x api.Value) {
	old, had := o[name]
	o[h.keep(name)] = h.kept(x)
	if had {
		h.texts.drop(name)
		h.texts.drop(old.Text)
	}
}

// kept is a value as the heap keeps it.
func (h *Heap) kept(v api.Value) api.Value {
	v.Text = h.keep(v.Text)
	return v
}

// handed is a value as the heap hands it out: it shares no memory with what is kept.
func handed(v api.Value) api.Value {
	v.Text = strings.Clone(v.Text)
	return v
}

// keep is a text as the heap keeps it.
func (h *Heap) keep(text string) string {
	// Most values have no text, and that takes no room.
	if text == "" {
		return ""
	}
	if h.texts == nil {
		h.texts = texts{}
	}
	return h.texts.keep(text)
}

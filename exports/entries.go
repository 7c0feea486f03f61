package exports

import (
	"strings"

	"gusset/api"
)

// A reader gathers the entries of a module.
type reader struct {
	targets  map[int]int    // of the requests, by their items
	imported map[string]int // the numbers of the imports, by their names here
	entries  api.Entries
}

// newReader takes the first of the requests of one item.
func newReader(requests []api.Request) *reader {
	r := &reader{targets: map[int]int{}, imported: map[string]int{}}
	for _, one := range requests {
		if _, has := r.targets[one.Item]; !has {
			r.targets[one.Item] = one.Target
		}
	}
	return r
}

func (r *reader) target(item int) int {
	if target, has := r.targets[item]; has {
		return target
	}
	return -1
}

// add has texts of its own in each entry: those of the tree are the caller's.
func add(l *[]api.Entry, e api.Entry) {
	e.Here, e.There = strings.Clone(e.Here), strings.Clone(e.There)
	*l = append(*l, e)
}

func (r *reader) readImport(n api.Node, item int) {
	if n.Kind != api.Import {
		return
	}
	for _, one := range n.Kids {
		here := one.Kids[0].Text
		if _, has := r.imported[here]; !has {
			r.imported[here] = len(r.entries.Imports)
		}
		add(&r.entries.Imports, api.Entry{Here: here, There: one.Text, Mod: r.target(item), Type: n.N == 1, Item: item})
	}
}

func (r *reader) readExport(n api.Node, item int) {
	switch n.Kind {
	case api.Export:
		declared := n.Kids[0]
		add(&r.entries.Own, api.Entry{Here: declared.Text, There: declared.Text, Mod: -1, Type: declared.Kind == api.Alias, Item: item})
	case api.Default:
		add(&r.entries.Own, api.Entry{Here: defaultName(n.Kids[0]), There: "default", Mod: -1, Item: item})
	case api.ExportFrom:
		for _, one := range n.Kids {
			if n.Text == "" {
				r.readHere(n, one, item)
			} else {
				r.readThere(n, one, item)
			}
		}
	}
}

// defaultName is the name here of what a Default holds.
func defaultName(n api.Node) string {
	if n.Kind == api.Function || n.Kind == api.Class {
		return n.Text
	}
	return "default"
}

// readHere reads an ExportOne of the module itself. What it names may be an import: then it is another module's.
func (r *reader) readHere(n, one api.Node, item int) {
	number, has := r.imported[one.Text]
	if !has {
		add(&r.entries.Own, api.Entry{Here: one.Text, There: exportedName(one), Mod: -1, Type: n.N == 1, Item: item})
		return
	}
	from := r.entries.Imports[number]
	add(&r.entries.Others, api.Entry{Here: exportedName(one), There: from.There, Mod: from.Mod, Type: n.N == 1 || from.Type, Item: item})
}

// readThere reads an ExportOne of a request.
func (r *reader) readThere(n, one api.Node, item int) {
	if one.Text == "*" && one.Kids[0].Kind == api.None {
		add(&r.entries.Stars, api.Entry{Mod: r.target(item), Item: item})
		return
	}
	add(&r.entries.Others, api.Entry{Here: exportedName(one), There: one.Text, Mod: r.target(item), Type: n.N == 1, Item: item})
}

func exportedName(one api.Node) string {
	if one.Kids[0].Kind == api.None {
		return one.Text
	}
	return one.Kids[0].Text
}

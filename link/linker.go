package link

import (
	"cmp"
	"slices"

	"gusset/api"
	"gusset/exports"
	"gusset/scope"
)

// A binding is a top of a module.
type binding struct {
	mod  int
	name string
}

// A linker gathers what is known of the modules, check by check: each leans on what those ahead of it gathered of all modules.
type linker struct {
	mods    []api.Mod
	scopes  []api.Scope
	kinds   map[binding]int // those of all tops
	entries []api.Entries
	founds  [][]api.Found // of Imports
	others  [][]api.Found // of Others
}

// readModule tells what is wrong with the names within a module.
func (l *linker) readModule(mod int) fault {
	m := l.mods[mod]
	s, _, err := scope.Resolve(m.Tree)
	if err != api.OK {
		return fault{err: err}
	}
	for _, top := range s.Tops {
		l.kinds[binding{mod, top.Name}] = top.Kind
	}
	l.scopes = append(l.scopes, s)
	l.entries = append(l.entries, exports.Entries(m.Tree, m.Requests))
	return fault{}
}

// followEntries tells the first name of another module that leads to nothing.
func (l *linker) followEntries(mod int) fault {
	e := l.entries[mod]
	imports, f := l.follow(e.Imports)
	if f != (fault{}) {
		return f
	}
	others, f := l.follow(e.Others)
	l.founds, l.others = append(l.founds, imports), append(l.others, others)
	return f
}

func (l *linker) follow(entries []api.Entry) ([]api.Found, fault) {
	var founds []api.Found
	for _, e := range entries {
		f := api.Found{Kind: api.FoundSpace, Mod: e.Mod}
		if e.There != "*" {
			f = exports.Resolve(l.entries, e.Mod, e.There)
		}
		if err := lost(f); err != api.OK {
			return nil, fault{e.There, err}
		}
		founds = append(founds, f)
	}
	return founds, fault{}
}

// lost is the error of what leads to nothing.
func lost(f api.Found) api.Errno {
	switch f.Kind {
	case api.FoundAmbiguous:
		return api.ErrAmbiguous
	case api.FoundCircular:
		return api.ErrCircular
	case api.FoundNone:
		return api.ErrNoExport
	}
	return api.OK
}

// checkUses tells the first use of an import that leads to nothing which may stand there.
func (l *linker) checkUses(mod int) fault {
	imports := l.entries[mod].Imports
	numbers := make(map[string]int, len(imports))
	for i, e := range imports {
		numbers[e.Here] = i
	}
	ones := exportOnes(l.mods[mod].Tree)
	for _, u := range l.scopes[mod].Uses {
		if u.Kind != api.UseImport {
			continue
		}
		i := numbers[u.Name]
		if _, exported := slices.BinarySearch(ones, u.At); !exported && !l.fits(u, imports[i], l.founds[mod][i]) {
			return fault{u.Name, api.ErrType}
		}
	}
	return fault{}
}

// fits tells whether a use of an import may stand where it does.
func (l *linker) fits(u api.Use, e api.Entry, f api.Found) bool {
	if u.Type {
		return l.leadsToType(f)
	}
	return !e.Type && isValue(f, l.kindOf(f))
}

// exportOnes are the places of a module's ExportOnes, rising: what is exported may be a type or a value, whatever it is used for.
func exportOnes(module api.Node) []int {
	var places []int
	at := 0
	var walk func(n api.Node)
	walk = func(n api.Node) {
		if n.Kind == api.ExportOne {
			places = append(places, at)
		}
		at++
		for _, k := range n.Kids {
			walk(k)
		}
	}
	walk(module)
	return places
}

// An export is what an entry of types alone leads to, and the name by which that is told.
type export struct {
	item  int
	name  string
	found api.Found
}

// checkTypesAlone tells the first export of types alone that leads to none.
func (l *linker) checkTypesAlone(mod int) fault {
	var all []export
	for _, e := range l.entries[mod].Own {
		if e.Type {
			all = append(all, export{e.Item, e.Here, api.Found{Kind: api.FoundOne, Mod: mod, Name: e.Here}})
		}
	}
	for i, e := range l.entries[mod].Others {
		if e.Type {
			all = append(all, export{e.Item, e.There, l.others[mod][i]})
		}
	}
	slices.SortStableFunc(all, func(a, b export) int { return cmp.Compare(a.item, b.item) })
	for _, e := range all {
		if !l.leadsToType(e.found) {
			return fault{e.name, api.ErrType}
		}
	}
	return fault{}
}

// kindOf is the kind of the top that is found; 0, if there is none.
func (l *linker) kindOf(f api.Found) int {
	return l.kinds[binding{f.Mod, f.Name}]
}

func (l *linker) leadsToType(f api.Found) bool {
	kind := l.kindOf(f)
	return f.Kind == api.FoundOne && (kind == api.Alias || kind == api.Class)
}

// isValue tells whether what is found leads to a value, where the top that it may be is of a kind.
func isValue(f api.Found, kind int) bool {
	switch {
	case f.Type:
		return false
	case f.Kind == api.FoundSpace:
		return true
	case f.Kind != api.FoundOne:
		return false
	}
	return kind == api.Let || kind == api.Function || kind == api.Class || kind == api.Default
}

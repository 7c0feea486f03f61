package scope

import (
	"slices"
	"strings"

	"gusset/api"
)

// A view is a tree with its places in a list, each with its parent's place, so that the chapter's words can be asked of each place alone.
type view struct {
	trees []api.Node
	up    []int
}

func viewOf(n api.Node) *view {
	v := &view{}
	var add func(n api.Node, up int)
	add = func(n api.Node, up int) {
		at := len(v.trees)
		v.trees, v.up = append(v.trees, n), append(v.up, up)
		for _, k := range n.Kids {
			add(k, at)
		}
	}
	add(n, -1)
	return v
}

func (v *view) kind(at int) int {
	if at < 0 {
		return 0
	}
	return v.trees[at].Kind
}

// above are the places around a place, the nearest first.
func (v *view) above(at int) []int {
	var l []int
	for at = v.up[at]; at >= 0; at = v.up[at] {
		l = append(l, at)
	}
	return l
}

// item is the number of the item in which a place stands.
func (v *view) item(at int) int {
	number := -1
	for p := 1; p <= at; p++ {
		if v.up[p] == 0 {
			number++
		}
	}
	return number
}

// declaration is the name that the tree at a place declares, and the place whose scope has it; -1 of none.
func (v *view) declaration(at int) (string, int) {
	n, up := v.trees[at], v.up[at]
	switch n.Kind {
	case api.Param:
		if call := v.up[up]; v.kind(call) != api.TypeFunc {
			return n.Text, call
		}
	case api.Let, api.Function:
		if v.kind(up) == api.Block {
			return n.Text, up
		}
		return n.Text, 0
	case api.Class, api.Alias, api.Space:
		return n.Text, 0
	case api.ImportOne:
		return n.Kids[0].Text, 0
	case api.Default:
		if k := n.Kids[0].Kind; k != api.Function && k != api.Class {
			return "default", 0
		}
	}
	return "", -1
}

// says is the place at which the name is declared that is asked for at a place; -1 of a builtin, -2 if nothing says it.
func (v *view) says(at int, name string, topsAlone bool) int {
	for _, scope := range v.above(at) {
		if topsAlone && scope > 0 {
			continue
		}
		for p := range v.trees {
			if declared, in := v.declaration(p); declared == name && in == scope {
				return p
			}
		}
	}
	if !topsAlone && slices.Contains([]string{"parse", "print", "push", "read", "text"}, name) {
		return -1
	}
	return -2
}

// used is the name that a place uses, and whether it is looked for among the tops alone; "" of none.
func (v *view) used(at int) (string, bool) {
	n, up := v.trees[at], v.up[at]
	switch n.Kind {
	case api.Name:
		if k := v.kind(up); k == api.ImportOne || k == api.ExportOne {
			return "", false
		}
		return n.Text, false
	case api.New:
		return n.Text, false
	case api.ExportOne:
		if v.trees[up].Text != "" {
			return "", false
		}
		return n.Text, true
	case api.TypeName:
		if strings.Contains(" number string boolean null undefined any ", " "+n.Text+" ") {
			return "", false
		}
		return n.Text, true
	}
	return "", false
}

// given is the exported name that a place gives, or "".
func (v *view) given(at int) string {
	n := v.trees[at]
	switch n.Kind {
	case api.Export:
		return n.Kids[0].Text
	case api.Default:
		return "default"
	case api.ExportOne:
		if n.Kids[0].Kind == api.Name {
			return n.Kids[0].Text
		}
		return strings.TrimPrefix(n.Text, "*")
	}
	return ""
}

func (v *view) twice(at int) bool {
	name, in := v.declaration(at)
	exported := v.given(at)
	for p := range at {
		if other, there := v.declaration(p); in >= 0 && other == name && there == in {
			return true
		}
		if exported != "" && v.given(p) == exported {
			return true
		}
	}
	return false
}

func (v *view) unnamed(at int) bool {
	name, topsAlone := v.used(at)
	if name == "" {
		return false
	}
	decl := v.says(at, name, topsAlone)
	switch k := v.kind(decl); v.kind(at) {
	case api.TypeName:
		return k != api.Alias && k != api.Class && k != api.ImportOne
	case api.Name, api.New:
		return decl == -2 || k == api.Alias
	}
	return decl == -2
}

func (v *view) constant(at int) bool {
	n := v.trees[at]
	if n.Kind != api.Assign || n.Kids[0].Kind != api.Name {
		return false
	}
	decl := v.says(at, n.Kids[0].Text, false)
	if decl < 0 {
		return decl == -1
	}
	return v.kind(decl) != api.Param && (v.kind(decl) != api.Let || v.trees[decl].N == 1)
}

func (v *view) misplaced(at int) bool {
	around := v.above(at)
	among := func(l []int, kinds ...int) int {
		return slices.IndexFunc(l, func(p int) bool { return slices.Contains(kinds, v.kind(p)) })
	}
	switch v.kind(at) {
	case api.This:
		member := among(around, api.Field, api.Ctor, api.Method)
		return member < 0 || among(around[:member], api.Function) >= 0
	case api.Return:
		return among(around, api.Func, api.Function, api.Ctor, api.Method) < 0
	}
	return false
}

// expected is what Resolve answers of a whole module or script.
func expected(n api.Node) (api.Scope, int, api.Errno) {
	v := viewOf(n)
	var s api.Scope
	for at := range v.trees {
		switch {
		case v.twice(at):
			return api.Scope{}, at, api.ErrTwice
		case v.unnamed(at):
			return api.Scope{}, at, api.ErrName
		case v.constant(at):
			return api.Scope{}, at, api.ErrConst
		case v.misplaced(at):
			return api.Scope{}, at, api.ErrThis
		}
		if name, in := v.declaration(at); in == 0 {
			free := v.kind(at) == api.Let && v.trees[at].N == 0
			s.Tops = append(s.Tops, api.Top{Name: name, Kind: v.kind(at), At: at, Item: v.item(at), Const: !free})
		}
		if name, topsAlone := v.used(at); name != "" {
			s.Uses = append(s.Uses, v.use(at, name, topsAlone))
		}
	}
	return s, 0, api.OK
}

func (v *view) use(at int, name string, topsAlone bool) api.Use {
	use := api.Use{At: at, Kind: api.UseBuiltin, Name: name, Type: v.kind(at) == api.TypeName}
	decl := v.says(at, name, topsAlone)
	if decl < 0 {
		return use
	}
	use.Decl, use.Kind = decl, api.UseLocal
	if _, in := v.declaration(decl); in == 0 {
		use.Kind = api.UseTop
		if v.kind(decl) == api.ImportOne {
			use.Kind = api.UseImport
		}
	}
	return use
}

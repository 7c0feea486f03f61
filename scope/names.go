package scope

import "gusset/api"

// A declared is what a name says: the kind of the tree that declares it (0 of a builtin) and its place, the kind of its uses, and whether it may be assigned.
type declared struct {
	kind, at, use int
	free          bool
}

// declaredBy is what the name of a tree says that declares one.
func declaredBy(n api.Node, at, use int) declared {
	return declared{kind: n.Kind, at: at, use: use, free: n.Kind == api.Param || n.Kind == api.Let && n.N == 0}
}

// typed tells whether a type may be named by it.
func (d declared) typed() bool {
	return d.kind == api.Alias || d.kind == api.Class || d.kind == api.ImportOne
}

// A scope is the names that it declares, within another scope.
type scope struct {
	names map[string]declared
	outer *scope
}

func within(outer *scope) *scope {
	return &scope{names: map[string]declared{}, outer: outer}
}

// declare keeps the first of one name: a second one is told by its place that is another.
func (s *scope) declare(name string, d declared) {
	if _, has := s.names[name]; !has {
		s.names[name] = d
	}
}

// find looks from the innermost scope outwards.
func (s *scope) find(name string) (declared, bool) {
	for ; s != nil; s = s.outer {
		if d, has := s.names[name]; has {
			return d, true
		}
	}
	return declared{}, false
}

// declares is the name that a tree declares in the scope in which it stands, or "".
func declares(n api.Node) string {
	switch n.Kind {
	case api.Let, api.Function, api.Class, api.Alias, api.Space:
		return n.Text
	case api.ImportOne:
		return n.Kids[0].Text
	case api.Default:
		if declares(n.Kids[0]) == "" {
			return "default"
		}
	}
	return ""
}

// exports is the exported name that a tree gives, or "".
func exports(n api.Node) string {
	switch n.Kind {
	case api.Export:
		return declares(n.Kids[0])
	case api.Default:
		return "default"
	case api.ExportOne:
		if n.Kids[0].Kind == api.Name {
			return n.Kids[0].Text
		}
		if n.Text != "*" {
			return n.Text
		}
	}
	return ""
}

// basic tells whether it is a type's name that needs no declaration.
func basic(name string) bool {
	switch name {
	case "number", "string", "boolean", "null", "undefined", "any":
		return true
	}
	return false
}

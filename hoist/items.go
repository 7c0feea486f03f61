package hoist

import (
	"iter"

	"gusset/api"
	"gusset/exports"
	"gusset/link"
	"gusset/rename"
	"gusset/shake"
)

// The item of an Origin that is a namespace's definition.
const definition = -1

// items goes over the trees that stand in the bundle, each with its origin.
func items(l api.Linked) iter.Seq2[api.Origin, api.Node] {
	return func(yield func(api.Origin, api.Node) bool) {
		for _, mod := range shake.Spaces(l) {
			if !yield(api.Origin{Mod: mod, Item: definition}, space(l, mod)) {
				return
			}
		}
		for _, origin := range shake.Keep(l) {
			image, has := rename.Item(l, origin.Mod, origin.Item)
			if has && !yield(origin, image) {
				return
			}
		}
	}
}

// space is a module's namespace.
func space(l api.Linked, mod int) api.Node {
	n := api.Node{Kind: api.Space, Text: rename.Space(mod)}
	for one := range ones(l, mod) {
		n.Kids = append(n.Kids, one)
	}
	return n
}

// ones goes over the trees that stand in a module's namespace: one for each name under which it gives a value.
func ones(l api.Linked, mod int) iter.Seq[api.Node] {
	return func(yield func(api.Node) bool) {
		for _, name := range exports.Names(l.Entries, mod) {
			f := exports.Resolve(l.Entries, mod, name)
			if link.Value(l, f) && !yield(one(name, f)) {
				return
			}
		}
	}
}

// one gives a value that was found under a name.
func one(name string, f api.Found) api.Node {
	says := rename.Name(f.Mod, f.Name)
	if f.Kind == api.FoundSpace {
		says = rename.Space(f.Mod)
	}
	return api.Node{Kind: api.SpaceOne, Text: name, Kids: []api.Node{{Kind: api.Name, Text: says}}}
}

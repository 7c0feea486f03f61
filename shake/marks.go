package shake

import (
	"iter"

	"gusset/api"
)

// The item of an Origin that is a namespace, as in a bundle.
const space = -1

// marks tell what of each module is marked: its namespace first, then its items.
type marks [][]bool

func newMarks(mods []api.Mod) marks {
	m := make(marks, len(mods))
	for i, mod := range mods {
		m[i] = make([]bool, 1+len(mod.Tree.Kids))
	}
	return m
}

// mark tells whether it marks what was not marked yet.
func (m marks) mark(o api.Origin) bool {
	if o.Mod < 0 || o.Mod >= len(m) || o.Item < space || o.Item >= len(m[o.Mod])-1 || m[o.Mod][o.Item+1] {
		return false
	}
	m[o.Mod][o.Item+1] = true
	return true
}

func (m marks) copied() marks {
	c := make(marks, len(m))
	for i, row := range m {
		c[i] = make([]bool, len(row))
		copy(c[i], row)
	}
	return c
}

// all goes over what is marked.
func (m marks) all() iter.Seq[api.Origin] {
	return func(yield func(api.Origin) bool) {
		for mod, row := range m {
			for i, marked := range row {
				if marked && !yield(api.Origin{Mod: mod, Item: i - 1}) {
					return
				}
			}
		}
	}
}

// spaces are the modules whose namespaces are marked.
func (m marks) spaces() []int {
	var mods []int
	for mod, row := range m {
		if row[0] {
			mods = append(mods, mod)
		}
	}
	return mods
}

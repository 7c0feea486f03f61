package link

import (
	"strings"

	"gusset/api"
)

func copyGraph(g api.Graph) api.Graph {
	return api.Graph{Mods: copyList(g.Mods, copyMod)}
}

func copyMod(m api.Mod) api.Mod {
	return api.Mod{Path: strings.Clone(m.Path), Tree: copyTree(m.Tree), Requests: copyList(m.Requests, copyRequest)}
}

func copyRequest(r api.Request) api.Request {
	r.Text = strings.Clone(r.Text)
	return r
}

func copyTree(n api.Node) api.Node {
	n.Text, n.Kids = strings.Clone(n.Text), copyList(n.Kids, copyTree)
	return n
}

// copyList has no room to spare, in which two lists could meet.
func copyList[T any](l []T, one func(T) T) []T {
	if len(l) == 0 {
		return nil
	}
	c := make([]T, len(l))
	for i := range l {
		c[i] = one(l[i])
	}
	return c
}

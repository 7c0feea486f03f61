package rename

import "gusset/api"

// held is what an item comes to in a script, where nothing is exported.
func held(n api.Node) api.Node {
	if n.Kind != api.Export && n.Kind != api.Default || len(n.Kids) != 1 {
		return n
	}
	k := n.Kids[0]
	if n.Kind == api.Export || k.Kind == api.Function || k.Kind == api.Class {
		return k
	}
	return api.Node{Kind: api.Let, Text: "default", N: 1, Kids: []api.Node{{Kind: api.None}, k}}
}

// hasImage tells whether anything of what is held stands in a script.
func hasImage(n api.Node) bool {
	return n.Kind != api.Import && n.Kind != api.ExportFrom && n.Kind != api.Alias
}

// rename puts a name of the script where a use says a top or namespace.
func rename(n *api.Node, says api.Found) {
	var name string
	switch says.Kind {
	case api.FoundOne:
		name = Name(says.Mod, says.Name)
	case api.FoundSpace:
		name = Space(says.Mod)
	default:
		return
	}
	if n.Kind == api.New {
		n.Text = name
		return
	}
	*n = api.Node{Kind: api.Name, Text: name}
}

// declared names the top that an item declares.
func declared(n api.Node, mod int) api.Node {
	switch n.Kind {
	case api.Let, api.Function, api.Class, api.Space:
		n.Text = Name(mod, n.Text)
	}
	return n
}

// dropTypes puts None in the place of each type: wherever one stands, but within another one, None may.
func dropTypes(n *api.Node) {
	for i := range n.Kids {
		k := &n.Kids[i]
		if isType(k.Kind) {
			*k = api.Node{Kind: api.None}
		} else {
			dropTypes(k)
		}
	}
}

func isType(kind int) bool {
	switch kind {
	case api.TypeName, api.TypeArray, api.TypeUnion, api.TypeObject, api.TypeFunc:
		return true
	}
	return false
}

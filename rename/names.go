package rename

import (
	"gusset/api"
	"gusset/tree"
)

// digits are those of a number that is not below 0, without a nought ahead.
func digits(n int) string {
	// As many as the greatest int has.
	var row [19]byte
	first := len(row) - 1
	for i := range len(row) {
		at := len(row) - 1 - i
		row[at] = '0' + byte(n%10)
		if row[at] != '0' {
			first = at
		}
		n /= 10
	}
	return string(row[first:])
}

// isOfModules tells whether a text is a property name without $: one that may stand in a module's tree.
func isOfModules(name string) bool {
	member := api.Node{Kind: api.Member, Text: name, Kids: []api.Node{{Kind: api.Null}}}
	item := api.Node{Kind: api.Expr, Kids: []api.Node{member}}
	return tree.Form(api.Node{Kind: api.Module, Kids: []api.Node{item}}) == api.FormModule
}

package pure

import "gusset/api"

// A rule tells which trees of its kind do nothing when they are evaluated; it asks all rules of what stands within.
type rule struct {
	pure func(all rules, n api.Node) bool
}

// The rules of all kinds, by their numbers; no tree of a kind without one is pure.
type rules map[int]rule

func newRules() rules {
	// What a function or class holds is not evaluated with it.
	always := rule{pure: rules.always}
	kids := rule{pure: rules.kidsArePure}
	return rules{
		api.Num:    always,
		api.Text:   always,
		api.Bool:   always,
		api.Null:   always,
		api.Undef:  always,
		api.Func:   always,
		api.Array:  kids,
		api.Object: kids,
		api.Prop:   kids,
		api.Cond:   kids,
		api.Unary:  {pure: rules.unaryIsPure},
		api.Binary: {pure: rules.binaryIsPure},

		api.Function:   always,
		api.Class:      always,
		api.Alias:      always,
		api.Import:     always,
		api.ExportFrom: always,
		api.Let:        {pure: rules.letIsPure},
		api.Expr:       kids,
		api.Default:    kids,
		api.Export:     kids,
	}
}

// isPure tells it of a whole tree, or of a part of one.
func (all rules) isPure(n api.Node) bool {
	r, has := all[n.Kind]
	return has && r.pure(all, n)
}

func (all rules) always(n api.Node) bool {
	return true
}

func (all rules) kidsArePure(n api.Node) bool {
	for _, k := range n.Kids {
		if !all.isPure(k) {
			return false
		}
	}
	return true
}

// unaryIsPure leaves out what ends a run on some values.
func (all rules) unaryIsPure(n api.Node) bool {
	return (n.Text == "!" || n.Text == "typeof") && all.kidsArePure(n)
}

// binaryIsPure leaves out what ends a run on some values, and with it the comparisons that never do: the chapter has none of them.
func (all rules) binaryIsPure(n api.Node) bool {
	return (n.Text == "&&" || n.Text == "||") && all.kidsArePure(n)
}

// letIsPure asks the expression alone: ahead of it stands a type.
func (all rules) letIsPure(n api.Node) bool {
	return all.isPure(n.Kids[1])
}

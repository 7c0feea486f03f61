package flow

import (
	"strings"

	"gusset/api"
)

// gather adds to facts those of a whole expression that is true, or is not.
func gather(facts []api.Fact, n api.Node, is bool) []api.Fact {
	switch n.Kind {
	case api.Name:
		return append(facts, factOf(n, api.FactTrue, "", !is))
	case api.Unary:
		if n.Text == "!" {
			return gather(facts, n.Kids[0], !is)
		}
	case api.Binary:
		return gatherBinary(facts, n, is)
	}
	return facts
}

func gatherBinary(facts []api.Fact, n api.Node, is bool) []api.Fact {
	a, b := n.Kids[0], n.Kids[1]
	switch n.Text {
	case "&&", "||":
		// An && that is true says it of both sides, and so an || that is false; otherwise nobody knows which side it was.
		if is == (n.Text == "&&") {
			facts = gather(facts, a, is)
			return gather(facts, b, is)
		}
	case "===", "!==":
		not := is == (n.Text == "!==")
		// What is asked and what it is held against are never the same, so that one of both ways round at most says something.
		return compare(compare(facts, a, b, not), b, a, not)
	}
	return facts
}

// compare adds what is known of the name in asked, if that is held against other.
func compare(facts []api.Fact, asked, other api.Node, not bool) []api.Fact {
	switch {
	case asked.Kind == api.Name && other.Kind == api.Null:
		return append(facts, factOf(asked, api.FactIs, "null", not))
	case asked.Kind == api.Name && other.Kind == api.Undef:
		return append(facts, factOf(asked, api.FactIs, "undefined", not))
	case isTypeofName(asked) && other.Kind == api.Text:
		return append(facts, factOf(asked.Kids[0], api.FactTypeof, other.Text, not))
	}
	return facts
}

func isTypeofName(n api.Node) bool {
	return n.Kind == api.Unary && n.Text == "typeof" && n.Kids[0].Kind == api.Name
}

func factOf(name api.Node, kind int, text string, not bool) api.Fact {
	return api.Fact{Name: strings.Clone(name.Text), Kind: kind, Text: strings.Clone(text), Not: not}
}

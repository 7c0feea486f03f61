package tree

import (
	"slices"

	"gusset/api"
	"gusset/lex"
	"gusset/runes"
)

// A former holds trees against the rules of their kinds.
type former struct {
	words  []string // those of the language
	module bool     // within a module no identifier and no property name has a $
}

// Form: see the chapter.
func Form(n api.Node) int {
	// A Module is no part of any tree: whether the whole is one says it of all within.
	f := former{words: lex.Words(), module: n.Kind == api.Module}
	if !f.whole(n) {
		return api.FormNone
	}
	return formOf(n.Kind)
}

// whole tells whether n and all within is as the rules of their kinds ask.
func (f former) whole(n api.Node) bool {
	r, ok := ruleOf(n.Kind)
	return ok && f.follows(n, r) && f.agrees(n)
}

func (f former) follows(n api.Node, r rule) bool {
	if !f.says(r.text, n.Text) || n.N < 0 || n.N > r.most || len(n.Kids) < len(r.kids) {
		return false
	}
	for i, k := range n.Kids {
		p := r.rest
		if i < len(r.kids) {
			p = r.kids[i]
		}
		if !f.fits(p, k) {
			return false
		}
	}
	return true
}

// fits tells whether n is whole and may stand as that part.
func (f former) fits(p part, n api.Node) bool {
	if p == anExported && n.Kind == api.Name {
		// Here alone a Name may be a word: export { a as default }.
		return f.follows(n, rule{text: aProp})
	}
	return stands(p, n.Kind) && f.whole(n)
}

// agrees tells whether the parts of n, each of which is as its rule asks, may stand together.
func (f former) agrees(n api.Node) bool {
	switch n.Kind {
	case api.Params, api.TypeObject:
		return unlike(n.Kids)
	case api.TypeFunc:
		return typed(n.Kids[0])
	case api.Class:
		// A Ctor has no name, so that two of them are alike.
		return inOrder(n.Kids) && unlike(n.Kids)
	case api.Import:
		return importStands(n)
	case api.ExportFrom:
		return f.exportStands(n)
	case api.ExportOne:
		return n.Kids[0].Text != n.Text
	}
	return true
}

// unlike tells whether no two of them have the same text.
func unlike(l []api.Node) bool {
	texts := make(map[string]struct{}, len(l))
	for _, n := range l {
		texts[n.Text] = struct{}{}
	}
	return len(texts) == len(l)
}

// typed tells whether each of the params has its type.
func typed(params api.Node) bool {
	return !slices.ContainsFunc(params.Kids, func(p api.Node) bool {
		return p.Kids[0].Kind == api.None
	})
}

// inOrder tells whether a class's members stand as Fields, Ctor, Methods: so the numbers of these kinds rise.
func inOrder(members []api.Node) bool {
	return slices.IsSortedFunc(members, func(a, b api.Node) int {
		return a.Kind - b.Kind
	})
}

// star is the place of the first * among the ones of an item; -1, if there is none.
func star(ones []api.Node) int {
	return slices.IndexFunc(ones, func(one api.Node) bool {
		return one.Text == "*"
	})
}

// importStands tells whether the ones of an Import may stand together, and its N beside them.
func importStands(n api.Node) bool {
	at := star(n.Kids)
	if at < 0 {
		return n.N == 0 || len(n.Kids) > 0
	}
	behindDefault := at == 1 && n.Kids[0].Text == "default"
	last := at == len(n.Kids)-1
	return (at == 0 || behindDefault) && last && n.N == 0
}

// exportStands tells whether the ones of an ExportFrom may stand together, and its Text and N beside them.
func (f former) exportStands(n api.Node) bool {
	if star(n.Kids) >= 0 {
		return len(n.Kids) == 1 && n.Text != "" && n.N == 0
	}
	if n.Text != "" {
		return true
	}
	return !slices.ContainsFunc(n.Kids, func(one api.Node) bool {
		return !f.isId(one.Text)
	})
}

// says tells whether s is a text of that sort.
func (f former) says(t text, s string) bool {
	switch t {
	case anId:
		return f.isId(s)
	case aProp:
		return f.isProp(s)
	case aMemberName:
		return f.isProp(s) && s != "constructor"
	case aPropOrStar:
		return f.isProp(s) || s == "*"
	case aTypeName:
		// The other types that the language names are identifiers.
		return f.isId(s) || s == "null" || s == "undefined"
	case aValid:
		return runes.Valid(s)
	case aUnary:
		return isUnary(s)
	case aBinary:
		return isBinary(s)
	}
	return s == ""
}

func (f former) isId(s string) bool {
	return f.isProp(s) && !slices.Contains(f.words, s)
}

// isProp needs no list of words: a word has letters alone, as an identifier may.
func (f former) isProp(s string) bool {
	for at, r := range s {
		switch {
		case runes.Letter(r), r == '_', r == '$' && !f.module, runes.Digit(r) && at > 0:
		default:
			return false
		}
	}
	return s != ""
}

func isUnary(s string) bool {
	switch s {
	case "-", "!", "typeof":
		return true
	}
	return false
}

func isBinary(s string) bool {
	switch s {
	case "+", "-", "*", "/", "%", "===", "!==", "<", "<=", ">", ">=", "&&", "||":
		return true
	}
	return false
}

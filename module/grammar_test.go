package module

import (
	"slices"
	"strings"
	"testing"
	"unicode"

	"gusset/api"
	"gusset/lex"
	"gusset/parse"
)

// grammar is the chapter's, a rule a line: | or, [ ] perhaps, { } as often as they stand there, ( ) together; "x" that word or sign, 'x' that name; ?x where it is so, !x where it is not. Expr, Type and Stmt are layer 6's; full is a text that is not empty; Unlike an Id of which no two in one Params are the same, MemberName a prop of which no two in one Class are, nor one constructor, Constructor the name of one that a Class may have once.
const grammar = `
Module = { Item }
Script = { Class | ?space Space | !space Stmt }
Item = Class | ?alias Alias | Import | Export | !alias Stmt
Class = "class" Id "{" { Member } "}"
Member = Constructor Params Block | MemberName Params [ ":" Type ] Block | MemberName [ ":" Type ] "=" Expr ";"
Params = "(" [ Param { "," Param } [ "," ] ] ")"
Param = Unlike [ ":" Type ]
Block = "{" { Stmt } "}"
Alias = 'type' Id "=" Type ";"
Import = "import" ( text | !types Clause 'from' text | ?types 'type' TypeClause 'from' text ) ";"
Clause = Id [ "," ( Star | Names ) ] | Star | Names
TypeClause = Id [ "," Names ] | "{" Name { "," Name } [ "," ] "}"
Star = "*" 'as' Id
Names = "{" [ Name { "," Name } [ "," ] ] "}"
Name = prop 'as' Id | Id
Export = "export" ( ?let Stmt | Class | Alias | "default" Default | "*" [ 'as' prop ] 'from' full ";" | [ 'type' ] ( Own | Other 'from' full ) ";" )
Default = ?function Stmt | Class | !function !class Expr ";"
Own = "{" Id [ 'as' prop ] { "," Id [ 'as' prop ] } [ "," ] "}"
Other = "{" prop [ 'as' prop ] { "," prop [ 'as' prop ] } [ "," ] "}"
Space = 'namespace' Id "{" { prop "=" Id ";" } "}"
`

// A part is one of the grammar: its sort is one of " ' ? ! | [ { ( and N (a name) and S (parts in a row).
type part struct {
	sort byte
	text string
	kids []*part
}

// grammarOf reads the grammar.
func grammarOf() map[string]*part {
	rules := map[string]*part{}
	for _, line := range strings.Split(strings.TrimSpace(grammar), "\n") {
		words := strings.Fields(line)
		rest := words[2:]
		rules[words[0]] = either(&rest)
	}
	return rules
}

// either reads parts up to what closes them.
func either(words *[]string) *part {
	row := &part{sort: 'S'}
	all := &part{sort: '|', kids: []*part{row}}
	for len(*words) > 0 {
		w := (*words)[0]
		*words = (*words)[1:]
		switch {
		case w == "|":
			row = &part{sort: 'S'}
			all.kids = append(all.kids, row)
		case w == "]" || w == "}" || w == ")":
			return all
		case w == "[" || w == "{" || w == "(":
			row.kids = append(row.kids, &part{sort: w[0], kids: []*part{either(words)}})
		case strings.ContainsRune(`"'`, rune(w[0])):
			row.kids = append(row.kids, &part{sort: w[0], text: w[1 : len(w)-1]})
		case strings.ContainsRune("?!", rune(w[0])):
			row.kids = append(row.kids, &part{sort: w[0], text: w[1:]})
		default:
			row.kids = append(row.kids, &part{sort: 'N', text: w})
		}
	}
	return all
}

// A looker follows all ways that the grammar gives through tokens, at once.
type looker struct {
	rules map[string]*part
	l     []api.Token
	known map[asked][]int
	// The greatest number of a token to which some way led and that none took.
	far int
	// The tokens that stand as names that may not stand twice, by the place at which their Params or Class begin.
	unlike map[int][]int
	begun  []int
	// The first token that may not be there whatever else stands.
	wrong int
}

type asked struct {
	rule string
	at   int
}

// ends are the places to which the part leads from that place.
func (k *looker) ends(p *part, at int) []int {
	switch p.sort {
	case '"', '\'':
		return k.taken(at, isLiteral(k.token(at), p.sort == '\'', p.text))
	case '?', '!':
		if k.so(p.text, at) == (p.sort == '?') {
			return []int{at}
		}
		return nil
	case 'S':
		l := []int{at}
		for _, kid := range p.kids {
			l = k.from(kid, l)
		}
		return l
	case '|':
		var l []int
		for _, kid := range p.kids {
			l = union(l, k.ends(kid, at))
		}
		return l
	case '[':
		return union([]int{at}, k.ends(p.kids[0], at))
	case '{':
		all := []int{at}
		for last := all; len(last) > 0; {
			last = k.from(p.kids[0], last)
			all = union(all, last)
		}
		return all
	case '(':
		return k.ends(p.kids[0], at)
	}
	return k.named(p.text, at)
}

func (k *looker) from(p *part, places []int) []int {
	var l []int
	for _, at := range places {
		l = union(l, k.ends(p, at))
	}
	return l
}

func union(a, b []int) []int {
	l := slices.Concat(a, b)
	slices.Sort(l)
	return slices.Compact(l)
}

func (k *looker) token(at int) api.Token {
	if at < len(k.l) {
		return k.l[at]
	}
	return api.Token{}
}

// taken is the place behind the token, if it may stand there.
func (k *looker) taken(at int, ok bool) []int {
	if ok {
		return []int{at + 1}
	}
	k.far = max(k.far, at)
	return nil
}

func isLiteral(t api.Token, name bool, s string) bool {
	kind := api.TokenSign
	switch {
	case name:
		kind = api.TokenName
	case unicode.IsLetter(rune(s[0])):
		kind = api.TokenWord
	}
	return t.Kind == kind && t.Text == s
}

// so tells what is asked by a ? or a ! of the tokens there.
func (k *looker) so(what string, at int) bool {
	a, b, c := k.token(at), k.token(at+1), k.token(at+2)
	id := b.Kind == api.TokenName
	switch what {
	case "alias":
		return isLiteral(a, true, "type") && id && isLiteral(c, false, "=")
	case "space":
		return isLiteral(a, true, "namespace") && id && isLiteral(c, false, "{")
	case "types":
		return isLiteral(a, true, "type") && (isLiteral(b, false, "{") || id && !(isLiteral(b, true, "from") && c.Kind == api.TokenText))
	case "let":
		return isLiteral(a, false, "let") || isLiteral(a, false, "const") || isLiteral(a, false, "function")
	case "constructor":
		return isLiteral(a, true, "constructor") && isLiteral(b, false, "(")
	}
	return isLiteral(a, false, what)
}

func (k *looker) named(rule string, at int) []int {
	t := k.token(at)
	id := t.Kind == api.TokenName
	prop := id || t.Kind == api.TokenWord
	switch rule {
	case "Id":
		return k.taken(at, id)
	case "prop":
		return k.taken(at, prop)
	case "text":
		return k.taken(at, t.Kind == api.TokenText)
	case "full":
		return k.taken(at, t.Kind == api.TokenText && t.Text != "")
	case "Unlike":
		return k.once(at, id)
	case "Constructor":
		return k.once(at, k.so("constructor", at))
	case "MemberName":
		if prop && t.Text == "constructor" && !k.so("constructor", at) {
			k.wrong = min(k.wrong, at)
		}
		return k.once(at, prop && t.Text != "constructor")
	case "Expr":
		return k.below(parse.Expr, at)
	case "Type":
		return k.below(parse.Type, at)
	case "Stmt":
		return k.below(parse.Stmt, at)
	}
	return k.ruled(rule, at)
}

// once takes a name that may not stand twice in what was begun last.
func (k *looker) once(at int, ok bool) []int {
	if ok {
		in := k.begun[len(k.begun)-1]
		k.unlike[in] = union(k.unlike[in], []int{at})
	}
	return k.taken(at, ok)
}

// below follows a rule of layer 6.
func (k *looker) below(call func([]api.Token, int) (api.Node, int, api.Errno), at int) []int {
	_, end, err := call(k.l, at)
	if err != api.OK {
		k.far = max(k.far, end)
		return nil
	}
	return []int{end}
}

// ruled follows a rule of the grammar.
func (k *looker) ruled(rule string, at int) []int {
	q := asked{rule, at}
	l, ok := k.known[q]
	if ok {
		return l
	}
	own := rule == "Params" || rule == "Class"
	if own {
		k.begun = append(k.begun, at)
	}
	l = k.ends(k.rules[rule], at)
	if own {
		k.begun = k.begun[:len(k.begun)-1]
	}
	k.known[q] = l
	return l
}

// answer is what the chapter asks of a rule: the place behind, or that of the error; nothing is deep here.
func answer(rules map[string]*part, rule string, l []api.Token) (int, api.Errno) {
	k := &looker{rules: rules, l: l, known: map[asked][]int{}, unlike: map[int][]int{}, wrong: len(l) + 1}
	ends := k.named(rule, 0)
	whole := rule != "Item"
	if len(ends) == 0 || whole && ends[len(ends)-1] < len(l) {
		k.wrong = min(k.wrong, k.far)
	}
	for _, places := range k.unlike {
		seen := map[string]bool{}
		for _, at := range places {
			if seen[l[at].Text] {
				k.wrong = min(k.wrong, at)
			}
			seen[l[at].Text] = true
		}
	}
	if k.wrong <= len(l) {
		return k.wrong, api.ErrSyntax
	}
	return ends[len(ends)-1], api.OK
}

// against holds what Item answers of tokens against the grammar, and tells that.
func against(t *testing.T, rules map[string]*part, l []api.Token) (int, api.Errno) {
	t.Helper()
	want, wantErr := answer(rules, "Item", l)
	n, at, err := Item(l, 0)
	if at != want || err != wantErr || (err != api.OK) != (n.Kind == 0) {
		t.Errorf("Item(%s): %s, %d, %d; want %d, %d", source(l), told(n), at, err, want, wantErr)
	}
	return at, err
}

// wholly holds what Module and Script answer of a source of these tokens against the grammar.
func wholly(t *testing.T, rules map[string]*part, l []api.Token) {
	t.Helper()
	s := lex.Show(l)
	if s == "" {
		return
	}
	for i, call := range []func(string) (api.Node, int, api.Errno){Module, Script} {
		again, wrong, wantErr := lex.Lex(s, i == 1)
		want, rule := wrong, []string{"Module", "Script"}[i]
		if wantErr == api.OK {
			want, wantErr = answer(rules, rule, again)
			switch {
			case wantErr == api.OK:
				want = 0
			case want == len(again):
				want = len(s)
			default:
				want = again[want].At
			}
		}
		n, at, err := call(s)
		if at != want || err != wantErr || (err != api.OK) != (n.Kind == 0) {
			t.Errorf("%s(%s): %s, %d, %d; want %d, %d", rule, s, told(n), at, err, want, wantErr)
		}
	}
}

// otherwise calls for all tokens in which one thing alone is otherwise: one missing, one too many, another one, or two the other way round.
func otherwise(l, all []api.Token, call func([]api.Token)) {
	call(l)
	for i := 0; i <= len(l); i++ {
		rest := l[i:]
		if len(rest) > 0 {
			call(slices.Concat(l[:i], rest[1:]))
		}
		if len(rest) > 1 {
			call(slices.Concat(l[:i], rest[1:2], rest[:1], rest[2:]))
		}
		for _, x := range all {
			call(slices.Concat(l[:i], []api.Token{x}, rest))
			if len(rest) > 0 {
				call(slices.Concat(l[:i], []api.Token{x}, rest[1:]))
			}
		}
	}
}

const anyToken = "a b T 1 'x' '' ( ) { } [ ; , : . = * + => class import export default let const function if type from as namespace constructor $none"

// 7.1: the place behind and that of ErrSyntax, of all samples in which one thing alone is otherwise.
func TestOneOtherwise(t *testing.T) {
	t.Parallel()
	rules := grammarOf()
	all := tokens(t, anyToken)
	for _, s := range slices.Concat(samples(), spaces()) {
		otherwise(tokens(t, s.source), all, func(l []api.Token) {
			against(t, rules, l)
		})
		if t.Failed() {
			return
		}
	}
}

// 7.2: the same of sources, as modules' and as scripts'.
func TestOneOtherwiseSources(t *testing.T) {
	t.Parallel()
	rules := grammarOf()
	all := tokens(t, anyToken)
	for i, s := range slices.Concat(samples(), spaces()) {
		around := []string{"", "a; ", "class A { } ", "let b = 1; "}[i%4]
		otherwise(tokens(t, around+s.source), all, func(l []api.Token) {
			wholly(t, rules, l)
		})
		if t.Failed() {
			return
		}
	}
}

// 7.1: the same of all rows of tokens that begin so and are refused at their end at the earliest, up to a number of tokens.
func TestRows(t *testing.T) {
	t.Parallel()
	rules := grammarOf()
	for _, x := range []struct {
		begin, s string
		most     int
	}{
		{"", "a type namespace class import export T = ; { } ( 1", 5},
		{"import", "a if type from as 'x' '' { } , * ; (", 7},
		{"import type", "a if type from as 'x' '' { } , * ; (", 7},
		{"import {", "a default as , } ; *", 8},
		{"export", "a if type from as default 'x' '' { } , * ; = let class", 6},
		{"export {", "a if as , } from 'x' '' ;", 8},
		{"export type", "a if as { , } from 'x' = ; *", 7},
		{"class", "a C { } ;", 5},
		{"class C {", "a if constructor ( ) { } = ; :", 6},
		{"class C { a = 1;", "a b constructor ( ) { } = ; :", 6},
		{"class C { constructor(", "a b : , ) { } ;", 6},
		{"class C { m() {", "a } { ; m ( ) constructor", 6},
		{"type T", "= T | ; { } ( )", 5},
	} {
		t.Run(x.begin, func(t *testing.T) {
			t.Parallel()
			rows(t, rules, tokens(t, x.s), tokens(t, x.begin), x.most)
		})
	}
}

// rows holds a row, and those that begin with it and have up to that many tokens more, against the grammar, until one fails.
func rows(t *testing.T, rules map[string]*part, all, row []api.Token, more int) {
	at, err := against(t, rules, row)
	// Two tokens more may change what a name says.
	if t.Failed() || more == 0 || err == api.OK || at < len(row)-2 {
		return
	}
	for _, x := range all {
		rows(t, rules, all, append(row[:len(row):len(row)], x), more-1)
	}
}

// 7.1: the same of rows in which pieces of samples stand in one another's place.
func TestMixed(t *testing.T) {
	t.Parallel()
	rules := grammarOf()
	all := slices.Concat(samples(), spaces())
	for i, a := range all {
		for j, b := range all {
			l, m := tokens(t, a.source), tokens(t, b.source)
			from, to := (i*7+j)%len(l), (i+j*5)%len(m)
			against(t, rules, slices.Concat(l[:from], m[to:]))
			against(t, rules, slices.Concat(l[:from], m[:to], l[from:]))
			wholly(t, rules, slices.Concat(l, m))
			if t.Failed() {
				return
			}
		}
	}
}

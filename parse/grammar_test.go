package parse

import (
	"slices"
	"strings"
	"testing"
	"unicode"

	"gusset/api"
)

// grammar is the chapter's, a rule a line: | or, [ ] perhaps, { } as often as they stand there, ( ) together; "x" that word or sign; !"x" where it does not stand, arrow where the => stands behind the closing bracket, !arrow where it does not; Unlike an Id, and UnlikeProp a prop, of which no two in one Params or TypeObject are the same. (A Short has nothing behind it: its Expr, the longest, has taken it.)
const grammar = `
Params = "(" [ Param { "," Param } [ "," ] ] ")"
Param = Unlike [ ":" Type ]
Exprs = [ Expr { "," Expr } [ "," ] ]
Expr = Cond | Target "=" Expr
Target = Id | !arrow "(" Target ")" | Primary { Tail } ( "." prop | "[" Expr "]" )
Cond = Or | Or "?" Expr ":" Expr
Or = And { "||" And }
And = Equal { "&&" Equal }
Equal = Less { ( "===" | "!==" ) Less }
Less = Sum { ( "<" | "<=" | ">" | ">=" ) Sum }
Sum = Product { ( "+" | "-" ) Product }
Product = Unary { ( "*" | "/" | "%" ) Unary }
Unary = ( "-" | "!" | "typeof" ) Unary | Postfix
Postfix = Primary { Tail } | Short
Tail = "." prop | "[" Expr "]" | "(" Exprs ")"
Primary = number | text | "true" | "false" | "null" | "undefined" | "this" | Id | "[" Exprs "]" | Object | "new" Id "(" Exprs ")" | "function" Rest | arrow Params "=>" Block | !arrow "(" Expr ")"
Object = "{" [ Prop { "," Prop } [ "," ] ] "}"
Prop = prop ":" Expr | Id
Rest = Params [ ":" Type ] Block
Short = arrow Params "=>" !"{" Expr
Type = Post { "|" Post }
Post = Prim { "[" "]" }
Prim = Id | "null" | "undefined" | TypeObject | arrow TypeParams "=>" Type | !arrow "(" Type ")"
TypeObject = "{" { UnlikeProp ":" Type ";" } "}"
TypeParams = "(" [ TypeParam { "," TypeParam } [ "," ] ] ")"
TypeParam = Unlike ":" Type
Block = "{" { Stmt } "}"
Stmt = ( "let" | "const" ) Id [ ":" Type ] "=" Expr ";" | "function" Id Rest | If | "while" "(" Expr ")" Block | "return" [ Expr ] ";" | "throw" Expr ";" | Block | !"function" !"{" Expr ";"
If = "if" "(" Expr ")" Block [ "else" ( Block | If ) ]
`

// A part is one of the grammar: its sort is one of " ! | [ { ( and N (a name) and S (parts in a row).
type part struct {
	sort byte
	text string
	kids []*part
}

// grammarOf reads the grammar.
func grammarOf() map[string]*part {
	rules := map[string]*part{}
	for _, line := range strings.Split(strings.TrimSpace(grammar), "\n") {
		words := strings.Fields(line)
		rest := words[2:]
		rules[words[0]] = choice(&rest)
	}
	return rules
}

// choice reads parts up to what closes them.
func choice(words *[]string) *part {
	row := &part{sort: 'S'}
	all := &part{sort: '|', kids: []*part{row}}
	for len(*words) > 0 {
		w := (*words)[0]
		*words = (*words)[1:]
		switch {
		case w == "|":
			row = &part{sort: 'S'}
			all.kids = append(all.kids, row)
		case w == "]" || w == "}" || w == ")":
			return all
		case w == "[" || w == "{" || w == "(":
			row.kids = append(row.kids, &part{sort: w[0], kids: []*part{choice(words)}})
		case w[0] == '!' && w[1] == '"':
			row.kids = append(row.kids, &part{sort: '!', text: strings.Trim(w, `!"`)})
		case w[0] == '"':
			row.kids = append(row.kids, &part{sort: '"', text: strings.Trim(w, `"`)})
		default:
			row.kids = append(row.kids, &part{sort: 'N', text: w})
		}
	}
	return all
}

// A looker follows all ways that the grammar gives through tokens, at once.
type looker struct {
	rules map[string]*part
	l     []api.Token
	known map[asked][]int
	// The greatest number of a token to which some way led and that none took.
	far int
	// The tokens that stand as an Unlike, by the place at which their Params or TypeObject begin.
	unlike map[int][]int
	begun  []int
}

type asked struct {
	rule string
	at   int
}

// ends are the places to which the part leads from that place.
func (k *looker) ends(p *part, at int) []int {
	switch p.sort {
	case '"':
		if at < len(k.l) && isLiteral(k.l[at], p.text) {
			return []int{at + 1}
		}
		k.far = max(k.far, at)
		return nil
	case '!':
		if at < len(k.l) && isLiteral(k.l[at], p.text) {
			return nil
		}
		return []int{at}
	case 'S':
		l := []int{at}
		for _, kid := range p.kids {
			l = k.from(kid, l)
		}
		return l
	case '|':
		var l []int
		for _, kid := range p.kids {
			l = union(l, k.ends(kid, at))
		}
		return l
	case '[':
		return union([]int{at}, k.ends(p.kids[0], at))
	case '{':
		all := []int{at}
		for last := all; len(last) > 0; {
			last = k.from(p.kids[0], last)
			all = union(all, last)
		}
		return all
	case '(':
		return k.ends(p.kids[0], at)
	}
	return k.named(p.text, at)
}

func (k *looker) from(p *part, places []int) []int {
	var l []int
	for _, at := range places {
		l = union(l, k.ends(p, at))
	}
	return l
}

func union(a, b []int) []int {
	if len(a) == 0 || len(b) == 0 {
		return slices.Concat(a, b)
	}
	l := slices.Concat(a, b)
	slices.Sort(l)
	return slices.Compact(l)
}

func (k *looker) named(rule string, at int) []int {
	switch rule {
	case "arrow", "!arrow":
		if k.arrow(at) == (rule == "arrow") {
			return []int{at}
		}
		return nil
	case "Id", "prop", "number", "text", "Unlike", "UnlikeProp":
		return k.terminal(rule, at)
	}
	q := asked{rule, at}
	l, ok := k.known[q]
	if ok {
		return l
	}
	own := rule == "Params" || rule == "TypeParams" || rule == "TypeObject"
	if own {
		k.begun = append(k.begun, at)
	}
	l = k.ends(k.rules[rule], at)
	if own {
		k.begun = k.begun[:len(k.begun)-1]
	}
	k.known[q] = l
	return l
}

func (k *looker) terminal(rule string, at int) []int {
	kind := 0
	if at < len(k.l) {
		kind = k.l[at].Kind
	}
	name, word := kind == api.TokenName, kind == api.TokenWord
	ok := false
	switch rule {
	case "Id", "Unlike":
		ok = name
	case "prop", "UnlikeProp":
		ok = name || word
	case "number":
		ok = kind == api.TokenNumber
	case "text":
		ok = kind == api.TokenText
	}
	if !ok {
		k.far = max(k.far, at)
		return nil
	}
	if rule == "Unlike" || rule == "UnlikeProp" {
		in := k.begun[len(k.begun)-1]
		k.unlike[in] = union(k.unlike[in], []int{at})
	}
	return []int{at + 1}
}

func isLiteral(t api.Token, s string) bool {
	kind := api.TokenSign
	if unicode.IsLetter(rune(s[0])) {
		kind = api.TokenWord
	}
	return t.Kind == kind && t.Text == s
}

// arrow tells whether at the ( here the => stands behind the bracket that closes it.
func (k *looker) arrow(at int) bool {
	if at >= len(k.l) || !isLiteral(k.l[at], "(") {
		return false
	}
	var stack []string
	for ; at < len(k.l); at++ {
		if k.l[at].Kind != api.TokenSign {
			continue
		}
		switch t := k.l[at].Text; t {
		case "(", "[", "{":
			stack = append(stack, t)
		case ")", "]", "}":
			stack = stack[:len(stack)-1]
		}
		if len(stack) == 0 {
			return at+1 < len(k.l) && isLiteral(k.l[at+1], "=>")
		}
	}
	return false
}

// answer is what the chapter asks of a face: the place behind, or that of the error; nothing is deep here.
func answer(rules map[string]*part, face string, l []api.Token) (int, api.Errno) {
	k := &looker{rules: rules, l: l, known: map[asked][]int{}, unlike: map[int][]int{}}
	ends := k.named(face, 0)
	wrong := len(l) + 1 // the first token that may not stand where it stands
	if len(ends) == 0 || k.far > ends[len(ends)-1] {
		wrong = k.far // no end, or a way on that must be gone and is none
	} else if end := ends[len(ends)-1]; face == "Expr" && end < len(l) && isLiteral(l[end], "=") {
		wrong = end // what is ahead of it is no target
	}
	for _, places := range k.unlike {
		seen := map[string]bool{}
		for _, at := range places {
			if seen[l[at].Text] {
				wrong = min(wrong, at)
			}
			seen[l[at].Text] = true
		}
	}
	if wrong <= len(l) {
		return wrong, api.ErrSyntax
	}
	return ends[len(ends)-1], api.OK
}

// against holds what a face answers of tokens against the grammar, and tells whether it does.
func against(t *testing.T, rules map[string]*part, f face, l []api.Token) bool {
	want, wantErr := answer(rules, f.name, l)
	n, at, err := f.call(l, 0)
	if at != want || err != wantErr || (err != api.OK) != (n.Kind == 0) {
		t.Errorf("%s(%s): %s, %d, %d; want %d, %d", f.name, source(l), told(n), at, err, want, wantErr)
		return false
	}
	return true
}

// 6.1: the place behind and that of ErrSyntax, of all samples in which one token is missing, one too many, another one, or two are the other way round.
func TestOneOtherwise(t *testing.T) {
	t.Parallel()
	rules := grammarOf()
	all := tokens(t, "a b T 1 'a' ( ) [ ] { } ; , : . ? = => + - * === < && || ! | if else let const function while return throw new typeof true null this class $none")
	for _, s := range samples() {
		l := tokens(t, s.source)
		against(t, rules, s.face, l)
		for i := 0; i <= len(l); i++ {
			rest := l[i:]
			if len(rest) > 0 {
				against(t, rules, s.face, slices.Concat(l[:i], rest[1:]))
			}
			if len(rest) > 1 {
				against(t, rules, s.face, slices.Concat(l[:i], rest[1:2], rest[:1], rest[2:]))
			}
			for _, x := range all {
				against(t, rules, s.face, slices.Concat(l[:i], []api.Token{x}, rest))
				if len(rest) > 0 {
					against(t, rules, s.face, slices.Concat(l[:i], []api.Token{x}, rest[1:]))
				}
			}
		}
		if t.Failed() {
			return
		}
	}
}

// 6.1: the same of all short rows of tokens.
func TestShortRows(t *testing.T) {
	t.Parallel()
	rules := grammarOf()
	for _, x := range []struct {
		f    face
		s    string
		most int
	}{
		{exprs, "a b 1 ( ) [ ] { } , : . ? = => + ! if new function ;", 3},
		{exprs, "a ( ) [ ] , = => + ! ?", 5},
		{exprs, "a b ( ) { } : , => ;", 5},
		{types, "T a null 1 ( ) [ ] { } , : ; | => = if", 4},
		{types, "a ( ) [ ] | => : ,", 5},
		{types, "a b { } : ;", 6},
		{stmts, "a let const function if else while return throw ( ) { } : = ; + [ 1", 4},
		{stmts, "a if else ( ) { } ;", 6},
		{stmts, "a let : = ; { } function ( )", 5},
	} {
		t.Run(x.f.name, func(t *testing.T) {
			t.Parallel()
			rows(t, rules, x.f, tokens(t, x.s), nil, x.most)
		})
	}
}

// rows holds a row, and all those that begin with it and have up to that many tokens more, against the grammar, until one fails.
func rows(t *testing.T, rules map[string]*part, f face, all, row []api.Token, more int) bool {
	if !against(t, rules, f, row) {
		return false
	}
	for _, x := range all {
		if more > 0 && !rows(t, rules, f, all, append(row[:len(row):len(row)], x), more-1) {
			return false
		}
	}
	return true
}

// 6.1: the same of rows in which pieces of samples stand in one another's place.
func TestMixed(t *testing.T) {
	t.Parallel()
	rules := grammarOf()
	all := samples()
	for i, a := range all {
		for j, b := range all {
			l, m := tokens(t, a.source), tokens(t, b.source)
			from, to := (i*7+j)%len(l), (i+j*5)%len(m)
			against(t, rules, a.face, slices.Concat(l[:from], m[to:]))
			against(t, rules, a.face, slices.Concat(l[:from], m[:to], l[from:]))
			if t.Failed() {
				return
			}
		}
	}
}

package show

import (
	"strings"
	"testing"

	"gusset/api"
	"gusset/tree"
)

// A ranked is an expression, its text, and the rank of its kind; or one with a place @ in it, in tree and text, and the rank that the place asks for. Of a place in what is no expression the rank is 0.
type ranked struct {
	tree, text  string
	rank, asked int
}

// operators are the binary ones by their ranks.
func operators() map[string]int {
	return map[string]int{"||": 3, "&&": 4, "===": 5, "!==": 5, "<": 6, "<=": 6, ">": 6, ">=": 6, "+": 7, "-": 7, "*": 8, "/": 8, "%": 8}
}

// expressions are one of each kind at least.
func expressions() []ranked {
	l := []ranked{
		{"(Assign a b)", "a = b", 1, 0}, {"(Assign (Member x a) (Assign b c))", "a.x = b = c", 1, 0}, {"(Cond a b c)", "a ? b : c", 2, 0}, {"(Cond a b (Assign c d))", "a ? b : c = d", 2, 0},
		{"(Unary - a)", "-a", 9, 0}, {"(Unary ! a)", "!a", 9, 0}, {"(Unary typeof a)", "typeof a", 9, 0}, {"(Unary - (Unary typeof a))", "-typeof a", 9, 0},
		{"(Call a b)", "a(b)", 10, 0}, {"(Member x a)", "a.x", 10, 0}, {"(Index a b)", "a[b]", 10, 0},
		{"5", "5", 11, 0}, {"(Text t)", `"t"`, 11, 0}, {"(Bool #1)", "true", 11, 0}, {"(Bool)", "false", 11, 0}, {"(Null)", "null", 11, 0}, {"(Undef)", "undefined", 11, 0}, {"n", "n", 11, 0}, {"(This)", "this", 11, 0},
		{"(Array a)", "[a]", 11, 0}, {"(Object (Prop p a))", "{ p: a }", 11, 0}, {"(Func (Params) _ (Block))", "function () {}", 11, 0}, {"(New C a)", "new C(a)", 11, 0},
	}
	for sign, rank := range operators() {
		l = append(l, ranked{"(Binary " + sign + " a b)", "a " + sign + " b", rank, 0})
	}
	return l
}

// places are all in which an expression stands, but those of an Expr and a Default.
func places() []ranked {
	l := []ranked{
		{"(Call @)", "@()", 10, 10}, {"(Call @ x y)", "@(x, y)", 10, 10}, {"(Member x @)", "@.x", 10, 10}, {"(Index @ x)", "@[x]", 10, 10}, {"(Assign (Member x @) y)", "@.x = y", 1, 10}, {"(Assign (Index @ x) y)", "@[x] = y", 1, 10},
		{"(Unary - @)", "-@", 9, 9}, {"(Unary ! @)", "!@", 9, 9}, {"(Unary typeof @)", "typeof @", 9, 9}, {"(Cond @ x y)", "@ ? x : y", 2, 3}, {"(Cond x @ y)", "x ? @ : y", 2, 1}, {"(Cond x y @)", "x ? y : @", 2, 1},
		{"(Assign x @)", "x = @", 1, 1}, {"(Assign (Index x @) y)", "x[@] = y", 1, 1}, {"(Call x @)", "x(@)", 10, 1}, {"(Call x @ y)", "x(@, y)", 10, 1}, {"(New C @)", "new C(@)", 11, 1}, {"(Index x @)", "x[@]", 10, 1}, {"(Array @)", "[@]", 11, 1}, {"(Array x @ y)", "[x, @, y]", 11, 1}, {"(Object (Prop x @))", "{ x: @ }", 11, 1}, {"(Object (Prop x y) (Prop z @))", "{ x: y, z: @ }", 11, 1}, {"(Func (Params) _ (Block (Return @)))", "function () {\n  return @;\n}", 11, 1},
		{"(Let x _ @)", "let x = @;", 0, 1}, {"(Let x #1 :T @)", "const x: T = @;", 0, 1}, {"(Return @)", "return @;", 0, 1}, {"(Throw @)", "throw @;", 0, 1}, {"(If @ (Block) _)", "if (@) {}", 0, 1}, {"(While @ (Block))", "while (@) {}", 0, 1}, {"(Class C (Field x _ @))", "class C {\n  x = @;\n}", 0, 1}, {"(Class C (Field x :T @))", "class C {\n  x: T = @;\n}", 0, 1}, {"(Export (Let x _ @))", "export let x = @;", 0, 1},
	}
	for sign, rank := range operators() {
		l = append(l, ranked{"(Binary " + sign + " @ x)", "@ " + sign + " x", rank, rank}, ranked{"(Binary " + sign + " x @)", "x " + sign + " @", rank, rank + 1})
	}
	return l
}

// put is an expression in a place: with brackets, if its rank is below what the place asks for.
func put(e, place ranked) ranked {
	text := e.text
	if e.rank < place.asked {
		text = "(" + text + ")"
	}
	// The lines of what is put in begin as far in as that on which it stands.
	ahead, _, _ := strings.Cut(place.text, "@")
	line := ahead[strings.LastIndex(ahead, "\n")+1:]
	blanks := line[:len(line)-len(strings.TrimLeft(line, " "))]
	text = strings.ReplaceAll(text, "\n", "\n"+blanks)
	return ranked{strings.Replace(place.tree, "@", e.tree, 1), strings.Replace(place.text, "@", text, 1), place.rank, 0}
}

// 8.1: brackets stand in each place around the kinds whose rank is below what the place asks for, and around no other; without them another tree would be read, or none.
func TestRanks(t *testing.T) {
	for _, place := range places() {
		for _, e := range expressions() {
			all := put(e, place)
			shows(t, all.tree, all.text)
			n := grown(t, all.tree)
			bare, err := again(strings.Replace(place.text, "@", e.text, 1), tree.Form(n))
			if same := err == api.OK && tree.Same(bare, n); same != (e.rank >= place.asked) {
				t.Errorf("%s without brackets around %s is the same: %t", all.text, e.text, same)
			}
		}
	}
}

// 8.1: so of places within places.
func TestRanksWithin(t *testing.T) {
	for _, outer := range places() {
		for _, inner := range places() {
			if inner.rank == 0 {
				continue
			}
			for _, e := range expressions() {
				all := put(put(e, inner), outer)
				shows(t, all.tree, all.text)
			}
		}
	}
}

package module

import (
	"fmt"
	"strings"
	"testing"

	"gusset/api"
	"gusset/tree"
)

// 7.2, 7.3: items one behind the other, as a module's and, where they may be, as a script's.
func TestSources(t *testing.T) {
	reads(t, false, "", "", 0, api.OK)
	reads(t, true, "", "", 0, api.OK)
	reads(t, false, " \t\r\n/* a */ // b", "", 0, api.OK)
	reads(t, true, "// a\n", "", 0, api.OK)
	for _, a := range samples() {
		reads(t, false, a.source, a.tree, 0, api.OK)
		for _, b := range samples() {
			reads(t, false, a.source+b.source, a.tree+" "+b.tree, 0, api.OK)
		}
		n, _, _ := Module(a.source)
		if tree.Form(n) != api.FormModule {
			t.Errorf("%s: form %d", a.source, tree.Form(n))
		}
	}
	var all []sample
	for _, s := range [][]sample{classes(), spaces(), statements()} {
		all = append(all, s...)
	}
	for _, a := range all {
		for _, b := range all {
			reads(t, true, a.source+b.source, a.tree+" "+b.tree, 0, api.OK)
		}
		n, _, _ := Script(a.source)
		if tree.Form(n) != api.FormScript {
			t.Errorf("%s: form %d", a.source, tree.Form(n))
		}
	}
	reads(t, true, "let a$ = $ + $1;", "(Let a$ _ (Binary + $ $1))", 0, api.OK)
	reads(t, true, "class $C { $a = 1; $m($b: $T) { } }", "(Class $C (Field $a _ 1) (Method $m (Params (Param $b :$T)) _ (Block)))", 0, api.OK)
	reads(t, false, "import '$'; export { a } from \"$1\"; '$';", "(Import $) (ExportFrom $1 (ExportOne a _)) (Expr (Text $))", 0, api.OK)
	reads(t, false, `import "\u{e4}\n'"; import '\'"';`, "(Import ä\n') (Import '\")", 0, api.OK)
}

// 7.2: what is no item of a script: there the words begin nothing, and type is a name; what is none of a module.
func TestOtherItems(t *testing.T) {
	for _, x := range []struct {
		s     string
		place int
	}{
		{"import './x';", 0}, {"import { a } from './x';", 0}, {"export let a = 1;", 0}, {"export default 1;", 0}, {"export { a };", 0}, {"export * from './x';", 0}, {"type T = number;", 5}, {"a; import './x';", 3},
		{"namespace n", 10}, {"namespace n;", 10}, {"namespace n = 1;", 10}, {"namespace n n { }", 10}, {"namespace if { }", 10}, {"namespace { }", 10}, {"namespace 'n' { }", 10},
		{"namespace n {", 13}, {"namespace n { a", 15}, {"namespace n { a }", 16}, {"namespace n { a; }", 15}, {"namespace n { a = }", 18}, {"namespace n { a = b }", 20}, {"namespace n { a = if; }", 18}, {"namespace n { a = 1; }", 18}, {"namespace n { a = b.c; }", 19}, {"namespace n { 'a' = b; }", 14}, {"namespace n { 1 = b; }", 14}, {"namespace n { a: T = b; }", 15}, {"namespace n { a = b, c = d; }", 19}, {"namespace n { a = b;; }", 20}, {"namespace n { a = b; ", 21}, {"namespace n { };", 15}, {"namespace n { , }", 14},
		{"{ namespace n { } }", 12}, {"if (a) { namespace n { } }", 19}, {"{ class C { } }", 2},
	} {
		reads(t, true, x.s, "", x.place, api.ErrSyntax)
	}
	reads(t, true, "type = 5; type.a; namespace = 1; namespace(a);", "(Expr (Assign type 5)) (Expr (Member a type)) (Expr (Assign namespace 1)) (Expr (Call namespace a))", 0, api.OK)
	reads(t, false, "namespace n { }", "", 10, api.ErrSyntax)
	reads(t, false, "a; namespace n { a = b; }", "", 13, api.ErrSyntax)
}

// 7.2: the error is seen at a byte: that at which its token begins, or the source's end.
func TestBytes(t *testing.T) {
	for _, x := range []struct {
		s     string
		place int
	}{
		{")", 0}, {"  )", 2}, {"/* ) */ )", 8}, {"// )\n)", 5}, {"ä = 'ö';)", 10}, {"ä ü;", 3}, {"let a = 'ä€' 'b';", 16}, {"a; b; let c = ;", 14}, {"a;\n\n  class C { m() {} m() {} }", 23},
		{"import { ä as if } from './x';", 15}, {"export { x } from /* € */ '';", 28}, {"let a = 1", 9}, {"let a = 1  ", 11}, {"let a = 1 // ä\n", 16}, {"let a = 1/* b */", 16}, {"class C {", 9}, {"import", 6}, {"export {\n", 9}, {"a = \"\\u{e4}\" b;", 13}, {"a = 1 ) 'x';", 6},
		{"export { if }", 13}, {"export { if } ", 14}, {"export { if } from", 18}, {"import { a } from './x' import", 24},
	} {
		reads(t, false, x.s, "", x.place, api.ErrSyntax)
	}
}

// 7.2: Lex's error and place ahead of all others, wherever they are.
func TestLexFirst(t *testing.T) {
	for _, ahead := range []string{"", "a; ", ") ", "import ", "export { } ", "class C { a = 1; a", strings.Repeat("(", 500), "a" + strings.Repeat(".a", 200) + ";"} {
		for _, x := range []struct {
			s      string
			place  int
			err    api.Errno
			script bool
		}{
			{" $", 1, api.ErrSign, false}, {" a$ ", 2, api.ErrSign, false}, {" 'x", 1, api.ErrSign, true}, {" \"\\q\"", 1, api.ErrSign, true}, {" /* x", 1, api.ErrSign, true}, {" & b", 1, api.ErrSign, true}, {" 007", 1, api.ErrSign, true}, {" 9007199254740992;", 1, api.ErrNumber, true}, {" #", 1, api.ErrSign, true}, {" \xff", 1, api.ErrSign, true},
		} {
			reads(t, false, ahead+x.s, "", len(ahead)+x.place, x.err)
			if x.script {
				reads(t, true, ahead+x.s, "", len(ahead)+x.place, x.err)
			}
		}
	}
}

// nested are sources with a thing n times within another.
func nested(n int) []string {
	times := func(s string) string { return strings.Repeat(s, n) }
	return []string{
		times("[") + times("]") + ";", "a" + times(".b") + ";", "a" + times("()") + ";", "a" + times(" + a") + ";", times("- ") + "a;", times("a = ") + "a;", times("{") + times("}"), times("if (a) {") + times("}"), times("a ? b : ") + "c;", "let a = " + times("{ a: ") + "1" + times(" }") + ";",
		"let a: T" + times("[]") + " = 1;", "function f(a: T" + times("[]") + ") { }", times("while (a) { ") + "b;" + times("}"), times("() => ") + "a;", "let a = " + times("function () { return ") + "a" + times("; }") + ";",
		"class C { a = " + times("[") + times("]") + "; }", "class C { a: T" + times("[]") + " = 1; }", "class C { m() { " + times("{") + times("}") + " } }", "class C { m(a: T" + times("[]") + ") { } }", "class C { m(): T" + times("[]") + " { } }", "class C { constructor() { " + times("{") + times("}") + " } }", "class C { constructor(a: T" + times("[]") + ") { } }",
		"class C { a = 1; constructor() { } m() { } n() { a" + times("[b]") + "; } }", "a; b; c; " + times("!") + "d; e; f;", "if (a) { } else " + times("if (a) { } else ") + "{ }",
	}
}

// items are sources that no script has, with a thing n times within another.
func items(n int) []string {
	times := func(s string) string { return strings.Repeat(s, n) }
	return []string{
		"type T = U" + times("[]") + ";", "type T = " + times("{ a: ") + "U" + times("; }") + ";", "type T = " + times("() => ") + "U;", "export type T = U" + times("[]") + ";", "export let a = " + times("- ") + "b;", "export default a" + times(".b") + ";", "export default function f() { " + times("{") + times("}") + " }", "export default class C { a = " + times("[") + times("]") + "; }", "export class C { m() { " + times("{") + times("}") + " } }", "import 'x'; " + times("[") + times("]") + "; export { a };",
	}
}

// 7.2: a tree whose Depth is MaxNest may be, and one that is deeper may not, in a module and in a script.
func TestDepth(t *testing.T) {
	for script, l := range [][]func(int) []string{{nested, items}, {nested}} {
		call := []func(string) (api.Node, int, api.Errno){Module, Script}[script]
		for _, sources := range l {
			for i := range sources(1) {
				most := 0
				for n := 20; n <= 102; n++ {
					s := sources(n)[i]
					whole := api.Node{Kind: api.Module}
					for l, at := tokens(t, s), 0; at < len(l); {
						item, behind, err := Item(l, at)
						if err != api.OK {
							t.Fatalf("%s: %d", s, err)
						}
						whole.Kids, at = append(whole.Kids, item), behind
					}
					depth := tree.Depth(whole)
					got, at, err := call(s)
					switch {
					case depth <= 100 && (err != api.OK || at != 0 || tree.Depth(got) != depth), depth > 100 && (err != api.ErrDeep || at != 0 || got.Kind != 0):
						t.Errorf("%.60s.. of the depth %d: kind %d, %d, %d", s, depth, got.Kind, at, err)
					case depth <= 100:
						most = max(most, depth)
					}
				}
				if most < 98 {
					t.Errorf("%.60s.. comes not near the edge", sources(1)[i])
				}
			}
		}
	}
	for _, script := range []bool{false, true} {
		name := "(Expr " + strings.Repeat("(Array ", 97) + "(Array)" + strings.Repeat(")", 97) + ")"
		reads(t, script, strings.Repeat("[", 98)+strings.Repeat("]", 98)+";", name, 0, api.OK)
		reads(t, script, strings.Repeat("[", 99)+strings.Repeat("]", 99)+";", "", 0, api.ErrDeep)
		reads(t, script, "a; "+strings.Repeat("[", 99)+strings.Repeat("]", 99)+"; b;", "", 0, api.ErrDeep)
		// What is wrong in an item is told ahead of the depth of all.
		reads(t, script, strings.Repeat("[", 99)+strings.Repeat("]", 99)+"; )", "", 200, api.ErrSyntax)
		reads(t, script, strings.Repeat("[", 99)+strings.Repeat("]", 99)+";"+strings.Repeat("{", 401), "", 599, api.ErrDeep)
		reads(t, script, strings.Repeat("[", 99)+strings.Repeat("]", 99)+";"+strings.Repeat("{", 400), "", 599, api.ErrSyntax)
		// Brackets are no trees.
		reads(t, script, strings.Repeat("(", 398)+"a"+strings.Repeat(")", 398)+";", "(Expr a)", 0, api.OK)
		reads(t, script, strings.Repeat("( ", 399)+"a"+strings.Repeat(")", 399)+";", "", 798, api.ErrDeep)
	}
}

// R1: what is long, and what is nested far deeper than may be, in the order of the bound.
func TestLong(t *testing.T) {
	const many = 1 << 16
	times := func(s string) string { return strings.Repeat(s, many) }
	ok := func(s string, kids, place int, err api.Errno) {
		t.Helper()
		n, at, e := Module(s)
		if len(n.Kids) != kids || at != place || e != err {
			t.Errorf("%.60s..: %d items, %d, %d; want %d, %d, %d", s, len(n.Kids), at, e, kids, place, err)
		}
	}
	ok(times("a;"), many, 0, api.OK)
	ok(times("import 'x';"), many, 0, api.OK)
	ok(times("class C { a = 1; }"), many, 0, api.OK)
	ok("import { "+times("a, ")+"} from 'x';", 1, 0, api.OK)
	ok("export { "+times("a, ")+"};", 1, 0, api.OK)
	ok("class C { m() { "+times("a; ")+"} }", 1, 0, api.OK)
	ok("a"+times(".b")+";", 0, 0, api.ErrDeep)
	ok("type T = U"+times("[]")+";", 0, 0, api.ErrDeep)
	ok(times("["), 0, 399, api.ErrDeep)
	ok(times("{"), 0, 400, api.ErrDeep)
	ok(times("class C {"), 0, 15, api.ErrSyntax)
	ok(times("export "), 0, 7, api.ErrSyntax)
	ok("class C { "+times("a = 1; "), 0, 17, api.ErrSyntax)
	var b strings.Builder
	for i := range many {
		fmt.Fprintf(&b, "a%d = 1; ", i)
	}
	ok("class C { "+b.String()+"}", 1, 0, api.OK)
}

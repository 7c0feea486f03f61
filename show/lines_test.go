package show

import (
	"strings"
	"testing"

	"gusset/api"
	"gusset/lex"
)

// 8.1: a module's and a script's items have each a line's end behind them; what is no module and no script has none.
func TestItemLines(t *testing.T) {
	shows(t,
		"(Module)", "", "(Script)", "", "(Module (Expr a))", "a;\n", "(Script (Expr a))", "a;\n", "(Module (Block))", "{}\n", "(Script (Block) (Class C) (Space n) (Expr a))", "{}\nclass C {}\nnamespace n {}\na;\n",
		"(Module (Import m) (Let x #1 _ 1) (Class C (Field a _ 1)) (Alias T :U) (Export (Function f (Params) _ (Block (Return _)))) (Default a))",
		"import \"m\";\nconst x = 1;\nclass C {\n  a = 1;\n}\ntype T = U;\nexport function f() {\n  return;\n}\nexport default a;\n",
		"(Expr a)", "a;", "(Block (Expr a))", "{\n  a;\n}", "(Class C (Field a _ 1))", "class C {\n  a = 1;\n}",
	)
}

// 8.1: what stands inside is two blanks further in than the line of its {, and the } as far in as that line.
func TestInside(t *testing.T) {
	shows(t,
		"(Block (Block (Block (Block))) (Block (Expr a)))", "{\n  {\n    {\n      {}\n    }\n  }\n  {\n    a;\n  }\n}",
		"(Function f (Params) _ (Block (If a (Block (While b (Block (Expr c) (Return _)))) (Block (Expr d)))))", "function f() {\n  if (a) {\n    while (b) {\n      c;\n      return;\n    }\n  } else {\n    d;\n  }\n}",
		"(If a (Block) (Block (Expr b)))", "if (a) {} else {\n  b;\n}", "(If a (Block (Expr b)) (Block))", "if (a) {\n  b;\n} else {}",
		"(Script (Class C (Method m (Params) _ (Block (If a (Block (Return 1)) _))) (Method n (Params) _ (Block))) (Space n (SpaceOne a b)))", "class C {\n  m() {\n    if (a) {\n      return 1;\n    }\n  }\n  n() {}\n}\nnamespace n {\n  a = b;\n}\n",
		"(Module (Export (Class C (Ctor (Params) (Block (Block (Expr a)))))) (Default (Class D (Method m (Params) _ (Block (Return _))))) (Default (Function f (Params) _ (Block (Expr a)))))",
		"export class C {\n  constructor() {\n    {\n      a;\n    }\n  }\n}\nexport default class D {\n  m() {\n    return;\n  }\n}\nexport default function f() {\n  a;\n}\n",
	)
}

// 8.1: the lines of a block within an expression begin by the blanks of the line on which its { stands, whatever stands ahead on it.
func TestInsideExpressions(t *testing.T) {
	f := "(Func (Params) _ (Block (Expr a)))"
	shows(t,
		f, "function () {\n  a;\n}", "(Call f "+f+" 1)", "f(function () {\n  a;\n}, 1)", "(Call f "+f+" "+f+")", "f(function () {\n  a;\n}, function () {\n  a;\n})", "(Call "+f+" "+f+")", "function () {\n  a;\n}(function () {\n  a;\n})",
		"(Call (Call "+f+" 1) (Object (Prop a "+f+")))", "function () {\n  a;\n}(1)({ a: function () {\n  a;\n} })", "(Object (Prop a "+f+") (Prop b "+f+"))", "{ a: function () {\n  a;\n}, b: function () {\n  a;\n} }", "(Array (Array "+f+"))", "[[function () {\n  a;\n}]]",
		"(Cond "+f+" "+f+" (Unary ! "+f+"))", "function () {\n  a;\n} ? function () {\n  a;\n} : !function () {\n  a;\n}", "(Binary * (Binary + "+f+" 1) "+f+")", "(function () {\n  a;\n} + 1) * function () {\n  a;\n}",
		"(If "+f+" (Block (Expr b)) _)", "if (function () {\n  a;\n}) {\n  b;\n}", "(While (Call "+f+") (Block (Return "+f+")))", "while (function () {\n  a;\n}()) {\n  return function () {\n    a;\n  };\n}",
		"(Block (Let x _ (Call f (Func (Params) _ (Block (Return "+f+"))) "+f+")) (Expr b))", "{\n  let x = f(function () {\n    return function () {\n      a;\n    };\n  }, function () {\n    a;\n  });\n  b;\n}",
		"(Class C (Field a _ "+f+") (Method m (Params) _ (Block (Expr (Call "+f+")))))", "class C {\n  a = function () {\n    a;\n  };\n  m() {\n    (function () {\n      a;\n    }());\n  }\n}",
		"(Func (Params) _ (Block (Expr (Func (Params) _ (Block)))))", "function () {\n  (function () {});\n}", "(Module (Default "+f+") (Expr "+f+"))", "export default (function () {\n  a;\n});\n(function () {\n  a;\n});\n",
	)
}

// begun is the blanks with which the line of a byte begins.
func begun(s string, at int) int {
	line := s[strings.LastIndex(s[:at], "\n")+1:]
	return len(line) - len(strings.TrimLeft(line, " "))
}

// lined asks of a text that each line begins as far in as the chapter says, and that none is empty or ends with a blank.
func lined(t *testing.T, s string) bool {
	t.Helper()
	l, _, _ := lex.Lex(s, true)
	var open []api.Token
	for i, x := range l {
		first := i > 0 && strings.Contains(s[l[i-1].At:x.At], "\n")
		closes := x.Kind == api.TokenSign && x.Text == "}"
		want := 0
		if len(open) > 0 {
			// What stands in a { that ends no line is on that line itself.
			brace := open[len(open)-1].At
			want = begun(s, brace)
			if strings.HasPrefix(s[brace:], "{\n") && !closes {
				want += 2
			}
		}
		if first && begun(s, x.At) != want {
			t.Errorf("%s\nis not as far in as it should be at the byte %d: %d, want %d", s, x.At, begun(s, x.At), want)
			return false
		}
		if closes {
			open = open[:len(open)-1]
		}
		if x.Kind == api.TokenSign && x.Text == "{" {
			open = append(open, x)
		}
	}
	if strings.Contains(s, "\n\n") || strings.Contains(s, " \n") || strings.HasPrefix(s, "\n") || strings.HasPrefix(s, " ") || strings.HasSuffix(s, " ") || strings.Contains(s, "\t") {
		t.Errorf("%q has an empty line, or blanks at a line's end", s)
		return false
	}
	return true
}

// 8.1: so of all that is made, and it is no matter in what a tree stands but for how far in its lines begin.
func TestLinesMade(t *testing.T) {
	for _, form := range forms() {
		for seed := range int64(3000) {
			n := made(form, seed)
			s := Show(n)
			if !lined(t, s) {
				return
			}
			if form != api.FormStmt {
				continue
			}
			further := strings.ReplaceAll("\n"+s, "\n", "\n  ")
			for _, x := range []struct {
				n             api.Node
				ahead, behind string
			}{
				{node(api.Block, "", n), "{", "\n}"}, {node(api.Script, "", node(api.While, "", node(api.Name, "a"), node(api.Block, "", n))), "while (a) {", "\n}\n"},
				{node(api.Class, "C", node(api.Method, "m", node(api.Params, ""), node(api.None, ""), node(api.Block, "", n))), "class C {\n  m() {", "\n  }\n}"},
			} {
				in := further
				if x.n.Kind == api.Class {
					in = strings.ReplaceAll(further, "\n", "\n  ")
				}
				if got, want := Show(x.n), x.ahead+in+x.behind; got != want {
					t.Fatalf("%q, want\n%q", got, want)
				}
			}
		}
	}
}

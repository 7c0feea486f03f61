package show

import (
	"fmt"
	"strconv"
	"strings"
	"testing"

	"gusset/api"
	"gusset/lex"
	"gusset/module"
	"gusset/parse"
	"gusset/tree"
)

var kinds = map[string]int{
	"Num": api.Num, "Text": api.Text, "Bool": api.Bool, "Null": api.Null, "Undef": api.Undef, "Name": api.Name, "This": api.This, "Array": api.Array, "Object": api.Object,
	"Prop": api.Prop, "Func": api.Func, "Params": api.Params, "Param": api.Param, "None": api.None, "Unary": api.Unary, "Binary": api.Binary, "Cond": api.Cond,
	"Assign": api.Assign, "Call": api.Call, "New": api.New, "Member": api.Member, "Index": api.Index,
	"TypeName": api.TypeName, "TypeArray": api.TypeArray, "TypeUnion": api.TypeUnion, "TypeObject": api.TypeObject, "TypeProp": api.TypeProp, "TypeFunc": api.TypeFunc,
	"Let": api.Let, "Function": api.Function, "Expr": api.Expr, "If": api.If, "While": api.While, "Return": api.Return, "Throw": api.Throw, "Block": api.Block,
	"Class": api.Class, "Field": api.Field, "Ctor": api.Ctor, "Method": api.Method, "Alias": api.Alias, "Import": api.Import, "ImportOne": api.ImportOne, "Export": api.Export,
	"Default": api.Default, "ExportFrom": api.ExportFrom, "ExportOne": api.ExportOne, "Space": api.Space, "SpaceOne": api.SpaceOne, "Module": api.Module, "Script": api.Script,
}

// texted are the kinds that have a Text.
const texted = " Text Name Prop Param Unary Binary New Member TypeName TypeProp Let Function Class Field Method Alias Import ImportOne ExportFrom ExportOne Space SpaceOne "

// grown is the tree that a text tells: (Kind text #N kids), what is zero left out (a text that is no name in quotes); a Name with nothing else as its text, so a Num as its N, a None as _, and a TypeName with a : ahead.
func grown(t testing.TB, s string) api.Node {
	t.Helper()
	n, rest := grow(t, s)
	if strings.TrimSpace(rest) != "" {
		t.Fatalf("%s: %s is left", s, rest)
	}
	return n
}

func grow(t testing.TB, s string) (api.Node, string) {
	t.Helper()
	s = strings.TrimLeft(s, " ")
	if !strings.HasPrefix(s, "(") {
		word, rest := cut(s)
		return leafOf(word), rest
	}
	word, rest := cut(s[1:])
	n := api.Node{Kind: kinds[word]}
	if n.Kind == 0 {
		t.Fatalf("%s is no kind", word)
	}
	rest = strings.TrimLeft(rest, " ")
	if strings.Contains(texted, " "+word+" ") && !strings.HasPrefix(rest, "#") {
		n.Text, rest = textOf(t, rest)
	}
	if strings.HasPrefix(rest, "#") {
		word, rest = cut(rest[1:])
		n.N, _ = strconv.Atoi(word)
	}
	for rest = strings.TrimLeft(rest, " "); !strings.HasPrefix(rest, ")"); rest = strings.TrimLeft(rest, " ") {
		if rest == "" {
			t.Fatalf("%s does not end", s)
		}
		var kid api.Node
		kid, rest = grow(t, rest)
		n.Kids = append(n.Kids, kid)
	}
	return n, rest[1:]
}

// cut is a text up to the next blank or bracket, and the rest.
func cut(s string) (string, string) {
	if at := strings.IndexAny(s, " ()"); at >= 0 {
		return s[:at], s[at:]
	}
	return s, ""
}

func textOf(t testing.TB, s string) (string, string) {
	t.Helper()
	if !strings.HasPrefix(s, `"`) {
		word, rest := cut(s)
		return word, strings.TrimLeft(rest, " ")
	}
	quoted, err := strconv.QuotedPrefix(s)
	if err != nil {
		t.Fatalf("%s: %v", s, err)
	}
	text, _ := strconv.Unquote(quoted)
	return text, strings.TrimLeft(s[len(quoted):], " ")
}

func leafOf(word string) api.Node {
	if n, err := strconv.Atoi(word); err == nil {
		return api.Node{Kind: api.Num, N: n}
	}
	switch {
	case word == "_":
		return api.Node{Kind: api.None}
	case strings.HasPrefix(word, ":"):
		return node(api.TypeName, word[1:])
	}
	return node(api.Name, word)
}

func node(kind int, text string, kids ...api.Node) api.Node {
	return api.Node{Kind: kind, Text: text, Kids: kids}
}

// told is a tree as text, in full.
func told(n api.Node) string {
	var b strings.Builder
	fmt.Fprintf(&b, "(%d %q %d", n.Kind, n.Text, n.N)
	for _, k := range n.Kids {
		b.WriteString(" " + told(k))
	}
	return b.String() + ")"
}

// again is what the layers below read out of a text that should be a tree of that form: expressions, types, statements and items out of its tokens, all of them.
func again(s string, form int) (api.Node, api.Errno) {
	switch form {
	case api.FormModule:
		n, _, err := module.Module(s)
		return n, err
	case api.FormScript:
		n, _, err := module.Script(s)
		return n, err
	}
	l, _, err := lex.Lex(s, true)
	if err != api.OK {
		return api.Node{}, err
	}
	read := map[int]func([]api.Token, int) (api.Node, int, api.Errno){api.FormExpr: parse.Expr, api.FormType: parse.Type, api.FormStmt: parse.Stmt, api.FormItem: module.Item}[form]
	n, behind, err := read(l, 0)
	if err == api.OK && behind != len(l) {
		return api.Node{}, api.ErrSyntax
	}
	return n, err
}

// returns asks that what is shown of a tree is read as it was, and shown again as it was.
func returns(t *testing.T, n api.Node) bool {
	t.Helper()
	form := tree.Form(n)
	if form == api.FormNone {
		t.Errorf("%.500s has no form", told(n))
		return false
	}
	s := Show(n)
	m, err := again(s, form)
	if err != api.OK || !tree.Same(n, m) {
		t.Errorf("%.500s is shown as\n%.500s\nand read as %.500s, %d", told(n), s, told(m), err)
		return false
	}
	if got := Show(m); got != s {
		t.Errorf("%.500s\nis shown again as\n%.500s", s, got)
		return false
	}
	return true
}

// shows holds what is shown of trees against texts: first the one, then the other. What is shown is read as it was.
func shows(t *testing.T, l ...string) {
	t.Helper()
	for i := 0; i < len(l); i += 2 {
		n := grown(t, l[i])
		if got := Show(n); got != l[i+1] {
			t.Errorf("%s:\n%q, want\n%q", l[i], got, l[i+1])
		}
		returns(t, n)
	}
}

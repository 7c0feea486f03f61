package scope

import (
	"fmt"
	"strings"
	"testing"

	"gusset/api"
	"gusset/module"
	"gusset/tree"
)

// words are the kinds of trees that tests tell places by.
var words = map[int]string{
	api.Name: "Name", api.This: "This", api.Param: "Param", api.Assign: "Assign", api.New: "New", api.TypeName: "TypeName", api.Let: "Let", api.Function: "Function", api.Class: "Class",
	api.Alias: "Alias", api.Return: "Return", api.ImportOne: "ImportOne", api.Export: "Export", api.Default: "Default", api.ExportOne: "ExportOne", api.Space: "Space", api.Module: "Module", api.Script: "Script",
}

func node(kind int, text string, kids ...api.Node) api.Node {
	return api.Node{Kind: kind, Text: text, Kids: kids}
}

// read is the tree of a source: of a script, if script is ahead of it, else of a module.
func read(t testing.TB, s string) api.Node {
	t.Helper()
	source, script := strings.CutPrefix(s, "script: ")
	reader := module.Module
	if script {
		reader = module.Script
	}
	n, at, err := reader(source)
	if err != api.OK {
		t.Fatalf("%q: error %d at %d", s, err, at)
	}
	return n
}

// placed tells each place by its tree's kind and the how-manieth of that kind it is: Let2.
func placed(n api.Node) []string {
	var l []string
	count := map[int]int{}
	var walk func(n api.Node)
	walk = func(n api.Node) {
		count[n.Kind]++
		l = append(l, fmt.Sprint(words[n.Kind], count[n.Kind]))
		for _, k := range n.Kids {
			walk(k)
		}
	}
	walk(n)
	return l
}

// topsTold tells tops as: a Let1 0 const.
func topsTold(n api.Node, s api.Scope) string {
	at := placed(n)
	var l []string
	for _, top := range s.Tops {
		told := fmt.Sprint(top.Name, " ", at[top.At], " ", top.Item)
		if declaring, _ := tree.At(n, top.At); declaring.Kind != top.Kind {
			told += fmt.Sprint(" of the kind ", top.Kind)
		}
		if top.Const {
			told += " const"
		}
		l = append(l, told)
	}
	return strings.Join(l, ", ")
}

// usesTold tells uses as: Name1 a top Let1.
func usesTold(n api.Node, s api.Scope) string {
	at := placed(n)
	kinds := map[int]string{api.UseBuiltin: "builtin", api.UseLocal: "local", api.UseTop: "top", api.UseImport: "import"}
	var l []string
	for _, use := range s.Uses {
		told := fmt.Sprint(at[use.At], " ", use.Name, " ", kinds[use.Kind])
		if use.Kind != api.UseBuiltin || use.Decl != 0 {
			told += " " + at[use.Decl]
		}
		if use.Type {
			told += " type"
		}
		l = append(l, told)
	}
	return strings.Join(l, ", ")
}

// told tells all that Resolve answers.
func told(s api.Scope, at int, err api.Errno) string {
	return fmt.Sprintf("%v %v, %d, %d", s.Tops, s.Uses, at, err)
}

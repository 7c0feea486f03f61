package check

import (
	"fmt"
	"strings"
	"testing"

	"gusset/api"
	"gusset/graph"
	"gusset/link"
	"gusset/sign"
	"gusset/vfs"
)

// filled repeats a piece, with its number in the place of #, as often as a file has room for it.
func filled(ahead, piece, behind string) string {
	var s strings.Builder
	s.WriteString(ahead)
	for i := 0; ; i++ {
		next := strings.ReplaceAll(piece, "#", fmt.Sprint(i))
		if s.Len()+len(next)+len(behind) > api.MaxBytes {
			return s.String() + behind
		}
		s.WriteString(next)
	}
}

// 18.1: files as long as they may be, full of one thing each.
func TestLarge(t *testing.T) {
	t.Parallel()
	for _, source := range []string{
		filled("const x: number | string | null = 1;", "if(x){throw 1;}", ""),
		filled("const x: number | string | null = 1;", "if(x===null){throw 1;}", "x;"),
		filled("const x: number | string | null = 1;", "if(x===null){throw x;}x;", "x;"),
		filled("const x: number | null = 1;", "const y#: number|null=x;if(y#===null){throw 1;}y#-1;", ""),
		filled("const x: number | null = 1; const y = x;"+strings.Repeat("if(x){throw 1;}", 2000), "y;", ""),
		filled("", "const x#=1;", ""),
		filled("const x=1;", "x;", ""),
		filled("", "let a#:any=1;", ""),
		filled("class C { constructor(", "a#:number,", ") { a0 - a1; } }"),
		filled("[", "1,", "];"),
		filled("({", "a:1,", "});"),
		filled("print([", "()=>1,", "]);"),
		filled("class C {", "m#(a:C):C{return this.m0(a);}", "}"),
		filled("class C {", "f#:number=1;", " m() { return this.f0 - this.f1; } }"),
		filled("type T = { a: number; b: string | null; };", "{let x:T={a:1,b:null};x.a-1;}", ""),
		filled(large(300), "a.a0;", ""),
		filled(large(100, 100)+"const c = a || b;", "c||a;", ""),
		filled("let x = 1;", "x=x+1;", ""),
		filled("class C { } ", "new C();", ""),
		filled("", "{function f(a:number){return a;}f(1);}", ""),
	} {
		isWell(t, source)
	}
	const b = "export const x: number = 1;"
	isWell(t, filled("import * as n from './b';", "n.x-1;", ""), b)
	isWell(t, filled("import { x } from './b';", "x-1;", ""), b)
	// As many members as exports.
	var uses, exports strings.Builder
	for i := range 2000 {
		fmt.Fprintf(&uses, "n.x%d-1;", i)
		fmt.Fprintf(&exports, "export const x%d:number=1;", i)
	}
	isWell(t, "import * as n from './b';"+uses.String(), exports.String())
}

// 18.1: conditions as large as they may be: many names in one, and many conditions within one another.
func TestLargeConditions(t *testing.T) {
	names, uses := "", ""
	for i := range 800 {
		names += fmt.Sprintf("const a%d: number | null = 1;", i)
		uses += fmt.Sprintf("a%d-1;", i)
	}
	all := "a0"
	var halves func(from, to int) string
	halves = func(from, to int) string {
		if to-from == 1 {
			return fmt.Sprint("a", from)
		}
		middle := (from + to) / 2
		return "(" + halves(from, middle) + "&&" + halves(middle, to) + ")"
	}
	all = halves(0, 800)
	isWell(t, names+"if ("+all+") { "+uses+" }")
	isWell(t, names+"if (!"+all+") { throw 1; } "+uses)
	// As deep as trees may be.
	const x = "const x: number | null = 1; "
	isWell(t, x+"("+strings.Repeat("x && ", 90)+"x - 1);")
	isWell(t, x+strings.Repeat("if (x) { ", 45)+"x - 1;"+strings.Repeat(" }", 45))
	isRefused(t, x+"("+strings.Repeat("x || ", 90)+"x - 1);", "x - 1", api.ErrType)
	isWell(t, x+strings.Repeat("(() => { if (x === null) { throw 1; } x - 1; ", 20)+strings.Repeat("})();", 20))
	isType(t, []string{"const f = " + strings.Repeat("() => ", 25) + "1; f;"}, "f", "() => any")
	isType(t, []string{"const f = " + strings.Repeat("[", 90) + "1" + strings.Repeat("]", 90) + "; f;"}, "f", "number"+strings.Repeat("[]", 90))
}

// 18.1: as many modules as there may be, each with all the others.
func TestManyModules(t *testing.T) {
	files := vfs.New()
	for i := range api.MaxFiles {
		var s strings.Builder
		for j := range api.MaxFiles {
			fmt.Fprintf(&s, "import * as n%d from './m%d'; import { x as x%d, C as C%d } from './m%d'; n%d.x - x%d; new C%d().y - 1;", j, j, j, j, j, j, j, j)
		}
		fmt.Fprintf(&s, "export const x: number = 1; export class C { y: number = %d; } const c: C = new C(); c.y - 1;", i)
		files.Write(fmt.Sprintf("/m%d.ts", i), s.String())
	}
	g, _, _, err := graph.Load(files, "/m0")
	if err != api.OK || len(g.Mods) != api.MaxFiles {
		t.Fatal(err, len(g.Mods))
	}
	l, _, _, err := link.Link(g)
	if err != api.OK {
		t.Fatal(err)
	}
	s, _, err := sign.Sign(l)
	if err != api.OK {
		t.Fatal(err)
	}
	if mod, at, err := Check(l, s); mod != 0 || at != 0 || err != api.OK {
		t.Error(mod, at, err)
	}
	last := &l.Graph.Mods[api.MaxFiles-1].Tree
	last.Kids = append(last.Kids, api.Node{Kind: api.Expr, Kids: []api.Node{{Kind: api.Unary, Text: "-", Kids: []api.Node{{Kind: api.Null}}}}})
	if mod, at, err := Check(l, s); mod != api.MaxFiles-1 || textAt(l, mod, at) != "-null" || err != api.ErrType {
		t.Error(mod, at, err)
	}
}

package check

import (
	"math"
	"testing"

	"gusset/api"
	"gusset/tree"
	"gusset/types"
)

// 18.2: places at which no expression stands.
func TestTypeOfNoExpression(t *testing.T) {
	sources := all("import d, { x as y } from './b'; import * as n from './b'; export { y as z, d }; export { x as w } from './b'; export * from './b'; export * as v from './b'; type T = number | { a: (b: T2) => null; }; type T2 = T3[]; type T3 = any;"+
		" export class C { f: number = 1; constructor(a: T) { this.f = 2; } m(a: string, b): T { return b; } } function g(a) { if (a) { return; } else { throw a; } while (a) { } } export default { p: [y, n, d], q: (a: T) => a };",
		"export const x: number = 1; export default x;")
	l, s := linked(t, sources...)
	expressions := 0
	for mod, m := range l.Graph.Mods {
		inner := 0
		for at, n := range tree.All(m.Tree) {
			got, err := TypeOf(l, s, mod, at)
			want := tree.Form(n) == api.FormExpr && inner == 0
			inner--
			if n.Kind == api.ImportOne || n.Kind == api.ExportOne {
				inner = 1
			}
			inner = max(inner, 0)
			if want {
				expressions++
			}
			if want != (err == api.OK) || want != (types.Check(got) == api.OK) || !want && (err != api.ErrArg || !isZero(got)) {
				t.Errorf("%d (%s): %s, %d", at, textOf(n), told(got), err)
			}
		}
		for _, at := range []int{-1, tree.Size(m.Tree), tree.Size(m.Tree) + 1, math.MinInt, math.MaxInt} {
			if got, err := TypeOf(l, s, mod, at); err != api.ErrArg || !isZero(got) {
				t.Error(at, got, err)
			}
		}
	}
	if expressions != 18 {
		t.Error(expressions)
	}
	for _, mod := range []int{-1, 2, 3, math.MinInt, math.MaxInt} {
		if got, err := TypeOf(l, s, mod, 1); err != api.ErrArg || !isZero(got) {
			t.Error(mod, got, err)
		}
	}
	if got, err := TypeOf(api.Linked{}, api.Signs{}, 0, 0); err != api.ErrArg || !isZero(got) {
		t.Error(got, err)
	}
}

// 18.2: what ends the walk of that module, and of no other one, behind ErrArg.
func TestTypeOfErrors(t *testing.T) {
	l, s := linked(t, "import { x } from './b'; x; -x;", "1; -''; 2; export const x: number = 1;", "")
	for at := range tree.Size(l.Graph.Mods[1].Tree) + 2 {
		n, ok := tree.At(l.Graph.Mods[1].Tree, at)
		want := api.ErrArg
		if ok && tree.Form(n) == api.FormExpr {
			want = api.ErrType
		}
		if got, err := TypeOf(l, s, 1, at); err != want || !isZero(got) {
			t.Error(at, got, err)
		}
	}
	if got, err := TypeOf(l, s, 0, placeOf(t, l, 0, "x")); err != api.OK || types.Show(got) != "number" {
		t.Error(got, err)
	}
	l, s = linked(t, "1; "+large(300)+"[a];")
	if got, err := TypeOf(l, s, 0, placeOf(t, l, 0, "1")); err != api.ErrComplex || !isZero(got) {
		t.Error(got, err)
	}
	// A place that is none is told ahead of that; so are the names of imports and exports.
	l, s = linked(t, "import { x as y } from './b'; export { y as z }; export { x as w } from './b'; -'';", "export const x: number = 1;")
	for at, n := range tree.All(l.Graph.Mods[0].Tree) {
		want := api.ErrArg
		if text := textOf(n); text == `-""` || text == `""` {
			want = api.ErrType
		}
		if got, err := TypeOf(l, s, 0, at); err != want || !isZero(got) {
			t.Error(at, got, err)
		}
	}
	if got, err := TypeOf(l, s, 0, 0); err != api.ErrArg || !isZero(got) {
		t.Error(got, err)
	}
}

// 18.2: targets of Assigns, too, are told.
func TestTypeOfTargets(t *testing.T) {
	isType(t, all("let x: number | null = 1; x = 5;"), "x", "number | null")
	isType(t, all("const r: { a: number | null; } = { a: 1 }; r.a = 5;"), "r.a", "number | null")
	isType(t, all("const r: { a: number | null; } = { a: 1 }; r.a = 5;"), "r", "{ a: number | null; }")
	isType(t, all("const r: any[] = []; r[0] = 5;"), "r[0]", "any")
	isType(t, all("const r: any[] = []; r[0] = 5;"), "r[0] = 5", "number")
	isType(t, all("const r: any[] = []; r[0] = [][1] = 5;"), "[][1] = 5", "number")
}

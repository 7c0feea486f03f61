package shake

import (
	"fmt"
	"slices"
	"strings"
	"testing"
)

// 20.2: what an item mentions is kept, and what that mentions; what is mentioned by nothing that is kept is not.
func TestKeepOfMentions(t *testing.T) {
	for _, s := range []sample{
		{of("f(); function f() { g(); } function g() { h(); } function h() { } function i() { h(); }"), "0.0", "0.0 0.1 0.2 0.3", ""},
		// In circles.
		{of("f(); function f() { g(); } function g() { f(); } function h() { i(); } function i() { h(); }"), "0.0", "0.0 0.1 0.2", ""},
		{of("function f() { f(); } function g() { g(); } g;"), "0.2", "0.1 0.2", ""},
		// Each kind of what is declared.
		{of("let a = 1; let b = 2; const c = 3; const d = 4; class E { } class F { } [b, d, new F()];"), "0.6", "0.1 0.3 0.5 0.6", ""},
		{of("[a, C]; export let a = 1; export class C { } export let b = 2;"), "0.0 0.1 0.2 0.3", "0.0 0.1 0.2 0.3", ""},
		{of("import a from './b'; a;", "export default 5; let b = 1;"), "0.1", "1.0 0.1", ""},
		{of("import a from './b'; a;", "export default () => b; let b = () => c; let c = 1; let d = 2;"), "0.1", "1.0 1.1 1.2 0.1", ""},
		{of("import a from './b'; a;", "let c = 1; export default function b() { return c; }"), "0.1", "1.0 1.1 0.1", ""},
		{of("import a from './b'; new a();", "export default class b { c = b; }"), "0.1", "1.0 0.1", ""},
		// All of an item, wherever it is mentioned there.
		{of("class A { a = b; constructor() { c; } m() { d; } } new A(); let b = 1; let c = 2; let d = 3; let e = 4;"), "0.1", "0.0 0.1 0.2 0.3 0.4", ""},
		{of("let a = { k: [() => b] }; a; let b = (x) => { if (x) { return c; } let d = 1; return d; }; let c = 2; let d = 3;"), "0.1", "0.0 0.1 0.2 0.3", ""},
		// A local name is not the top's.
		{of("((a, b) => [a, b, c]); let d = (a) => { let b = 1; return [a, b, c]; }; d; let a = 1; let b = 2; let c = 3;"), "0.2", "0.1 0.2 0.5", ""},
		// What is assigned, too; and who assigns it is kept only if he is needed.
		{of("let a = 1; let b = 2; function f() { a = 2; } function g() { b = 2; } f(); b;"), "0.4 0.5", "0.0 0.1 0.2 0.4 0.5", ""},
		// Types are no mentions.
		{of("class A { } type T = A; function f(a: A, b: T): A { let c: A[] = []; return c[0]; } f;"), "0.3", "0.2 0.3", ""},
		{of("import { C } from './b'; let a: C = g(); function g(): C { return 1; }", "export class C { }"), "0.1", "0.1 0.2", ""},
		{of("import { C } from './b'; let a: C = new C(); ", "export class C { }"), "0.1", "1.0 0.1", ""},
		// Property names are none, shorthands are.
		{of("[({ a: 1 }).b, ({ c })]; let a = 1; let b = 2; let c = 3;"), "0.0", "0.0 0.3", ""},
	} {
		s.hold(t)
	}
}

// 20.2: mentions of other modules, over names, stars and members of namespaces; those modules' other items are not kept.
func TestKeepOfOthers(t *testing.T) {
	const c = "export let x = () => z; export let y = 2; let z = 3; print(4); export class C { } let w = 5;"
	for _, s := range []sample{
		{of("import { x } from './b'; x;", c), "1.3 0.1", "1.0 1.2 1.3 0.1", ""},
		{of("import { v as u } from './b'; u;", "export { y as v } from './c'; let y = 1;", c), "2.3 0.1", "2.1 2.3 0.1", ""},
		{of("import { v as u } from './b'; u;", "import { y as q } from './c'; export { q as v };", c), "2.3 0.1", "2.1 2.3 0.1", ""},
		{of("import { x } from './b'; x;", "export * from './c'; let x = 1;", c), "2.3 0.1", "2.0 2.2 2.3 0.1", ""},
		{of("import { x } from './b'; x;", "export * from './c'; export let x = 1;", c), "2.3 0.1", "2.3 1.1 0.1", ""},
		{of("import { x } from './b'; x;", "export * from './c'; export * from './d';", c, "export * from './c';"), "2.3 0.1", "2.0 2.2 2.3 0.1", ""},
		{of("import * as n from './b'; n.y; n.C;", c), "1.3 0.1 0.2", "1.1 1.3 1.4 0.1 0.2", ""},
		{of("import { m } from './b'; m.y;", "export * as m from './c'; let y = 1;", c), "2.3 0.1", "2.1 2.3 0.1", ""},
		{of("import * as n from './b'; n.m.y;", "export * as m from './c'; let y = 1;", c), "2.3 0.1", "2.1 2.3 0.1", ""},
		{of("import * as n from './b'; n.x.y;", c), "1.3 0.1", "1.0 1.2 1.3 0.1", ""},
		// An import that nobody uses; one that is used in what is not kept.
		{of("import { x } from './b';", c), "1.3", "1.3", ""},
		{of("import { x } from './b'; let a = () => x;", c), "1.3", "1.3", ""},
		{of("import { x } from './b'; export let a = () => x;", c), "1.3 0.1", "1.0 1.2 1.3 0.1", ""},
		// Modules in a circle, and one that asks for itself.
		{of("import { f } from './b'; f(); export function g() { h(); } function h() { } function i() { }", "import { g } from './a'; export function f() { g(); j(); } function j() { } export function k() { }"), "0.1 0.2", "1.1 1.2 0.1 0.2 0.3", ""},
		{of("import { f as g } from './a'; g(); export function f() { } function h() { g(); }"), "0.1 0.2", "0.1 0.2", ""},
		{of("import * as n from './a'; n.f(); export function f() { n.n; } export { n };"), "0.1 0.2", "0.1 0.2", "0"},
	} {
		s.hold(t)
	}
}

// 20.2: namespaces that are used as values by what is kept, and all that they have; in a namespace others, too.
func TestSpaces(t *testing.T) {
	const c = "export let x = () => z; let y = 2; let z = 3; export { y as w }; export type T = number; class D { } export type { D };"
	for _, s := range []sample{
		{of("import * as n from './b'; n;", c), "0.1", "1.0 1.1 1.2 0.1", "1"},
		{of("import * as n from './b'; n.x;", c), "0.1", "1.0 1.2 0.1", ""},
		{of("import * as n from './b'; n.nope;", c), "0.1", "1.0 1.1 1.2 0.1", "1"},
		// A type is no value that the namespace has.
		{of("import * as n from './b'; n.T;", c), "0.1", "1.0 1.1 1.2 0.1", "1"},
		{of("import * as n from './b'; n.D;", c), "0.1", "1.0 1.1 1.2 0.1", "1"},
		{of("import * as n from './b'; n[0]; ", c), "0.1", "1.0 1.1 1.2 0.1", "1"},
		{of("import * as n from './b'; export let f = () => n; f();", c), "0.1 0.2", "1.0 1.1 1.2 0.1 0.2", "1"},
		{of("import * as n from './b'; let f = () => n;", c), "", "", ""},
		{of("import * as n from './b'; f(); function f() { return n; } function g() { return n.x; }", c), "0.1", "1.0 1.1 1.2 0.1 0.2", "1"},
		{of("import * as n from './b'; (n) => n;", c), "", "", ""},
		{of("import * as n from './b'; [(n) => n.x, 1 + 1];", c), "0.1", "0.1", ""},
		// A module without exports, and one with a default alone.
		{of("import * as n from './b'; n;", "let y = 2; print(y);"), "1.1 0.1", "1.0 1.1 0.1", "1"},
		{of("import * as n from './b'; n;", "let y = 2; export default y;"), "1.1 0.1", "1.0 1.1 0.1", "1"},
		{of("import * as n from './b'; n;", "let y = 2; export default () => 1;"), "0.1", "1.1 0.1", "1"},
		// By stars: no default, not what is ambiguous, the module's own first.
		{of("import * as n from './b'; n;", "export * from './c'; export let v = 1; let x = 2;", c+"export default 1;"), "0.1", "2.0 2.1 2.2 1.1 0.1", "1"},
		{of("import * as n from './b'; n;", "export * from './c'; export * from './d';", c, "export let x = 1; export let u = 2;"), "0.1", "2.1 3.1 0.1", "1"},
		{of("import * as n from './b'; n;", "export * from './c'; export let x = 1;", c), "0.1", "2.1 1.1 0.1", "1"},
		{of("import * as n from './b'; n;", "export * from './a'; export let x = 1;"), "0.1", "1.1 0.1", "1"},
		// Namespaces within it.
		{of("import * as n from './b'; n;", "export * as m from './c';", c), "0.1", "2.0 2.1 2.2 0.1", "1 2"},
		{of("import * as n from './b'; n.m;", "export * as m from './c'; export let v = 1;", c), "0.1", "2.0 2.1 2.2 0.1", "2"},
		{of("import * as n from './b'; n.m.o;", "export * as m from './c'; export let v = 1;", "export * as o from './d'; export let v = 1;", c), "0.1", "3.0 3.1 3.2 0.1", "3"},
		{of("import { m } from './b'; m;", "import * as m from './c'; export { m };", c), "0.1", "2.0 2.1 2.2 0.1", "2"},
		{of("import * as n from './b'; n;", "export * as m from './b'; export let v = 1;"), "0.1", "1.1 0.1", "1"},
		{of("import * as n from './b'; n;", "export * as m from './c'; export let v = 1;", "export * as o from './b'; export let v = 2;"), "0.1", "2.1 1.1 0.1", "1 2"},
		{of("import * as n from './b'; n;", "import * as m from './c'; export let v = () => m;", "export let w = 1; let y = 2;"), "0.1", "2.0 1.1 0.1", "1 2"},
		{of("import * as n from './b'; n;", "import * as m from './c'; let v = () => m; export let u = 1;", "export let w = 1;"), "0.1", "1.2 0.1", "1"},
		// What the entry exports, though nobody uses it; over stars, and as a type it cannot be.
		{of("export * as n from './b';", c), "", "1.0 1.1 1.2", "1"},
		{of("export * from './b';", "export * as n from './c'; export let v = 1;", c), "1.1", "2.0 2.1 2.2 1.1", "2"},
		{of("import './b';", "export * as n from './c'; export let v = 1;", c), "", "", ""},
		{of("export * as n from './a'; let x = 1; export let y = 2;"), "0.2", "0.2", "0"},
		{of("export { n as default }; import * as n from './b';", c), "", "1.0 1.1 1.2", "1"},
		// The entry's own namespace, and several: rising, whatever the order of evaluation is.
		{of("import './b'; export let x = 1;", "import * as n from './a'; n;"), "1.1 0.1", "1.1 0.1", "0"},
		{of("import './b'; import * as n from './c'; n; export let x = 1;", "import * as n from './d'; import * as a from './a'; [n, a];", c, "export let v = 1;"), "1.2 0.2 0.3", "2.0 1.2 3.0 3.1 3.2 0.2 0.3", "0 2 3"},
	} {
		s.hold(t)
	}
}

// A way is how a module asks for the name f of another one, and how that is used; # is the other's letter.
type way struct {
	asks, uses string
	space      bool // the namespace is used as a value
}

// 20.2: all graphs of three functions, each in a module of its own; the entry calls the first one. Kept are those that can be reached.
func TestAllOfThree(t *testing.T) {
	ways := []way{
		{"import { f as f# } from './#';", "f#();", false},
		{"import * as n# from './#';", "n#.f();", false},
		{"import f# from './#';", "f#();", false},
		{"import * as n# from './#';", "[n#];", true},
	}
	letters := []string{"b", "c", "d"}
	fill := func(s, letter string) string { return strings.ReplaceAll(s, "#", letter) }
	for number := range len(ways) * len(ways) << 9 {
		first, rest, edges := ways[number%len(ways)], ways[number/len(ways)%len(ways)], number/len(ways)/len(ways)
		leads := func(from, to int) bool { return edges>>(3*from+to)&1 == 1 }
		sources := of(fill(first.asks+first.uses, "b"))
		for from := range letters {
			var asks, uses string
			for to, letter := range letters {
				asks += fill(rest.asks, letter)
				if leads(from, to) {
					uses += fill(rest.uses, letter)
				}
			}
			sources = append(sources, asks+"export function f() { "+uses+" } export function g() { f(); } export { f as default };")
		}
		want := reached(leads, first, rest)
		want.sources = sources
		want.hold(t)
		if t.Failed() {
			t.FailNow()
		}
	}
}

// reached is what is wanted of all graphs of three. The modules are evaluated from the last one on. A namespace has g as well.
func reached(leads func(from, to int) bool, first, rest way) sample {
	found := []int{0}
	for i := 0; i < len(found); i++ {
		for to := range 3 {
			if leads(found[i], to) && !slices.Contains(found, to) {
				found = append(found, to)
			}
		}
	}
	var spaces, keep []string
	for mod := 3; mod >= 1; mod-- {
		if !slices.Contains(found, mod-1) {
			continue
		}
		keep = append(keep, fmt.Sprintf("%d.3", mod))
		asked := slices.ContainsFunc(found, func(from int) bool { return leads(from, mod-1) })
		if mod == 1 && first.space || rest.space && asked {
			keep = append(keep, fmt.Sprintf("%d.4", mod))
			spaces = append([]string{fmt.Sprint(mod)}, spaces...)
		}
	}
	return sample{nil, "0.1", strings.Join(append(keep, "0.1"), " "), strings.Join(spaces, " ")}
}

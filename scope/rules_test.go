package scope

import (
	"slices"
	"testing"

	"gusset/api"
	"gusset/tree"
)

// 9.1: the builtins.
func TestBuiltins(t *testing.T) {
	if got := Builtins(); !slices.Equal(got, []string{"parse", "print", "push", "read", "text"}) {
		t.Errorf("%q", got)
	}
}

type rule struct {
	source, tops, uses string
}

// 9.1: what is no error: the tops in their order, and the uses.
func TestTops(t *testing.T) {
	for _, x := range []rule{
		{"", "", ""},
		{"script: ", "", ""},
		{"const a = 1; function f(b: number) { let a = b; return a; }", "a Let1 0 const, f Function1 1 const", "Name1 b local Param1, Name2 a local Let2"},
		{"let a = 1; const b = 2; function c() {} class D {} type E = number;", "a Let1 0, b Let2 1 const, c Function1 2 const, D Class1 3 const, E Alias1 4 const", ""},
		{"export let a = 1; export const b = 2; export function c() {} export class D {} export type E = number;", "a Let1 0, b Let2 1 const, c Function1 2 const, D Class1 3 const, E Alias1 4 const", ""},
		{"1; export default function f() {}", "f Function1 1 const", ""},
		{"1; 2; export default class C {}", "C Class1 2 const", ""},
		{"let a = 1; export default a;", "a Let1 0, default Default1 1 const", "Name1 a top Let1"},
		{"export default () => 1;", "default Default1 0 const", ""},
		{"import d, { a as b, c } from './x'; import * as n from './y'; import './z'; import type { T } from './x';", "d ImportOne1 0 const, b ImportOne2 0 const, c ImportOne3 0 const, n ImportOne4 1 const, T ImportOne5 3 const", ""},
		{"import type d from './x'; import { default as e } from './x';", "d ImportOne1 0 const, e ImportOne2 1 const", ""},
		{"script: let a$1 = 1; namespace n { x = a$1; } class C {}", "a$1 Let1 0, n Space1 1 const, C Class1 2 const", "Name1 a$1 top Let1"},
		{"{ let a = 1; function b() {} } if (1) { let a = 1; } else { let c = 1; } while (1) { let a = 1; } (function () { let a = 1; })();", "", ""},
		{"export { x } from './x'; export * from './y'; export * as n from './z';", "", ""},
		{"let parse = 1; function print() {} class push {} type read = number; import { text } from './x';", "parse Let1 0, print Function1 1 const, push Class1 2 const, read Alias1 3 const, text ImportOne1 4 const", ""},
		{"type number = string; class any {} let boolean = 1;", "number Alias1 0 const, any Class1 1 const, boolean Let1 2", ""},
	} {
		checkRule(t, x)
	}
}

// 9.1: which names are uses, and what they say.
func TestUses(t *testing.T) {
	for _, x := range []rule{
		{"parse; print; push; read; text;", "", "Name1 parse builtin, Name2 print builtin, Name3 push builtin, Name4 read builtin, Name5 text builtin"},
		{"print(1); let print = 1;", "print Let1 1", "Name1 print top Let1"},
		{"new print();", "", "New1 print builtin"},
		{"let a = a;", "a Let1 0", "Name1 a top Let1"},
		{"a; let a = 1;", "a Let1 1", "Name1 a top Let1"},
		{"import { a } from './x'; import * as n from './y'; a; n.x; new a(n);", "a ImportOne1 0 const, n ImportOne2 1 const", "Name3 a import ImportOne1, Name4 n import ImportOne2, New1 a import ImportOne1, Name5 n import ImportOne2"},
		{"class C {} let x: C = new C();", "C Class1 0 const, x Let1 1", "TypeName1 C top Class1 type, New1 C top Class1"},
		{"let x = { a: 1 }.a; x.y = x[x];", "x Let1 0", "Name1 x top Let1, Name2 x top Let1, Name3 x top Let1"},
		{"let a = 1; a = a + 1;", "a Let1 0", "Name1 a top Let1, Name2 a top Let1"},
		{"let a = 1; a = (a = 2);", "a Let1 0", "Name1 a top Let1, Name2 a top Let1"},
		{"{ f(); function f() {} }", "", "Name1 f local Function1"},
		{"let a = 1; { a; let a = 2; } a;", "a Let1 0", "Name1 a local Let2, Name2 a top Let1"},
		{"let a = 1; { { a; } let a = 2; }", "a Let1 0", "Name1 a local Let2"},
		{"let a = 1; { { let a = 2; } a; }", "a Let1 0", "Name1 a top Let1"},
		{"let a = 1; if (a) { let a = 2; a; } else { a; let a = 3; }", "a Let1 0", "Name1 a top Let1, Name2 a local Let2, Name3 a local Let3"},
		{"let a = 1; while (a) { let a = 2; a; }", "a Let1 0", "Name1 a top Let1, Name2 a local Let2"},
		{"function f(a) { a = 1; let b = a; { let a = b; a; } }", "f Function1 0 const", "Name1 a local Param1, Name2 a local Param1, Name3 b local Let1, Name4 a local Let2"},
		{"function f(a) { let a = a; }", "f Function1 0 const", "Name1 a local Let1"},
		{"function f(f) { f; }", "f Function1 0 const", "Name1 f local Param1"},
		{"function f() { f; function f() { f; } }", "f Function1 0 const", "Name1 f local Function2, Name2 f local Function2"},
		{"let a = 1; let g = (a) => a; a; let h = (b) => { let c = a; return b; };", "a Let1 0, g Let2 1, h Let3 3", "Name1 a local Param1, Name2 a top Let1, Name3 a top Let1, Name4 b local Param2"},
		{"let g = (a, b) => (b, a) => [a, b];", "g Let1 0", "Name1 a local Param4, Name2 b local Param3"},
		{"class C { x = (a) => a; constructor(b) { b; } m(c) { c; C; } n() { print; } }", "C Class1 0 const", "Name1 a local Param1, Name2 b local Param2, Name3 c local Param3, Name4 C top Class1, Name5 print builtin"},
		{"let x = 1; class C { x = x; m(x) { return x; } k() { let k = x; return k; } }", "x Let1 0, C Class1 1 const", "Name1 x top Let1, Name2 x local Param1, Name3 x top Let1, Name4 k local Let2"},
		{"function f(C) { return new C(C); }", "f Function1 0 const", "New1 C local Param1, Name1 C local Param1"},
		{"type T = number; class C {} import type { U } from './x'; let x: T | C | U[] | { T: T; } | ((T: U) => C) = 1;", "T Alias1 0 const, C Class1 1 const, U ImportOne1 2 const, x Let1 3", "TypeName2 T top Alias1 type, TypeName3 C top Class1 type, TypeName4 U import ImportOne1 type, TypeName5 T top Alias1 type, TypeName6 U import ImportOne1 type, TypeName7 C top Class1 type"},
		{"type T = U; type U = T[];", "T Alias1 0 const, U Alias2 1 const", "TypeName1 U top Alias2 type, TypeName2 T top Alias1 type"},
		{"import * as n from './x'; let x: n = 1;", "n ImportOne1 0 const, x Let1 1", "TypeName1 n import ImportOne1 type"},
		{"type T = number; function f(T: T): T { let x: T = T; return x; }", "T Alias1 0 const, f Function1 1 const", "TypeName2 T top Alias1 type, TypeName3 T top Alias1 type, TypeName4 T top Alias1 type, Name1 T local Param1, Name2 x local Let1"},
		{"class C { x: C = null; constructor(c: C) {} m(c: C): C { return c; } }", "C Class1 0 const", "TypeName1 C top Class1 type, TypeName2 C top Class1 type, TypeName3 C top Class1 type, TypeName4 C top Class1 type, Name1 c local Param2"},
		{"let a: number | string | boolean | null | undefined | any = 1; type number = string; type string = number;", "a Let1 0, number Alias1 1 const, string Alias2 2 const", ""},
		{"let a = 1; function b() {} class C {} type T = number; import { i } from './x'; export { a, b as default, C as D, T, i };", "a Let1 0, b Function1 1 const, C Class1 2 const, T Alias1 3 const, i ImportOne1 4 const", "ExportOne1 a top Let1, ExportOne2 b top Function1, ExportOne3 C top Class1, ExportOne4 T top Alias1, ExportOne5 i import ImportOne1"},
		{"export type { T }; type T = number;", "T Alias1 1 const", "ExportOne1 T top Alias1"},
		{"let a = 1; export { a as b, a as c };", "a Let1 0", "ExportOne1 a top Let1, ExportOne2 a top Let1"},
		{"let a = 1; export { a as q } from './x'; export { a }; export { q as a1 } from './y';", "a Let1 0", "ExportOne2 a top Let1"},
		{"export default (a) => a;", "default Default1 0 const", "Name1 a local Param1"},
		{"export default function f() { return f; }", "f Function1 0 const", "Name1 f top Function1"},
		{"export const a = b; const b = 1;", "a Let1 0 const, b Let2 1 const", "Name1 b top Let2"},
		{"script: namespace n { a = b; n = n; p = print; } let b = 1; n.a;", "n Space1 0 const, b Let1 1", "Name1 b top Let1, Name2 n top Space1, Name3 print builtin, Name4 n top Space1"},
		{"script: class C {} let x: C = new C();", "C Class1 0 const, x Let1 1", "TypeName1 C top Class1 type, New1 C top Class1"},
		{"throw print; let a = typeof parse; !a ? a : a;", "a Let1 1", "Name1 print builtin, Name2 parse builtin, Name3 a top Let1, Name4 a top Let1, Name5 a top Let1"},
	} {
		checkRule(t, x)
	}
}

func checkRule(t *testing.T, x rule) {
	t.Helper()
	n := read(t, x.source)
	s, at, err := Resolve(n)
	if err != api.OK || at != 0 {
		t.Errorf("%q: error %d at %d", x.source, err, at)
		return
	}
	if got := topsTold(n, s); got != x.tops {
		t.Errorf("%q:\ntops %s\nwant %s", x.source, got, x.tops)
	}
	if got := usesTold(n, s); got != x.uses {
		t.Errorf("%q:\nuses %s\nwant %s", x.source, got, x.uses)
	}
}

type fault struct {
	source, at string
	want       api.Errno
}

// 9.1: the errors, each at its place.
func TestErrors(t *testing.T) {
	for _, x := range []fault{
		{"let a = 1; let a = 2;", "Let2", api.ErrTwice},
		{"type T = number; const T = 2;", "Let1", api.ErrTwice},
		{"let a = 1; function a() {}", "Function1", api.ErrTwice},
		{"function a() {} class a {}", "Class1", api.ErrTwice},
		{"class a {} type a = number;", "Alias1", api.ErrTwice},
		{"let a = 1; import { a } from './x';", "ImportOne1", api.ErrTwice},
		{"import { a } from './x'; let a = 1;", "Let1", api.ErrTwice},
		{"import { a, b as a } from './x';", "ImportOne2", api.ErrTwice},
		{"import a, * as a from './x';", "ImportOne2", api.ErrTwice},
		{"import { a } from './x'; import type { a } from './y';", "ImportOne2", api.ErrTwice},
		{"let a = 1; export let a = 2;", "Let2", api.ErrTwice},
		{"let a = 1; export default function a() {}", "Function1", api.ErrTwice},
		{"let a = 1; export default class a {}", "Class1", api.ErrTwice},
		{"script: let n = 1; namespace n {}", "Space1", api.ErrTwice},
		{"script: namespace n {} namespace n {}", "Space2", api.ErrTwice},
		{"{ let a = 1; const a = 2; }", "Let2", api.ErrTwice},
		{"{ function a() {} let a = 1; }", "Let1", api.ErrTwice},
		{"{ let a = 1; function a() {} }", "Function1", api.ErrTwice},
		{"function f() { let a = 1; { let a = 1; } let a = 1; }", "Let3", api.ErrTwice},
		{"if (1) { let a = 1; } else { let b = 1; let b = 1; }", "Let3", api.ErrTwice},

		{"export let a = 1; export let a = 2;", "Export2", api.ErrTwice},
		{"export const a = 1; export { a };", "ExportOne1", api.ErrTwice},
		{"export { a }; export const a = 1;", "Export1", api.ErrTwice},
		{"export { a }; export function a() {}", "Export1", api.ErrTwice},
		{"export { a }; export class a {}", "Export1", api.ErrTwice},
		{"export { a }; export type a = number;", "Export1", api.ErrTwice},
		{"let a = 1; export { a, a };", "ExportOne2", api.ErrTwice},
		{"let a = 1; let b = 1; export { b as a, a };", "ExportOne2", api.ErrTwice},
		{"let a = 1; let b = 1; export { b as c, a as c };", "ExportOne2", api.ErrTwice},
		{"export default 1; export default 2;", "Default2", api.ErrTwice},
		{"export default 1; export default function f() {}", "Default2", api.ErrTwice},
		{"export default class C {} export default function f() {}", "Default2", api.ErrTwice},
		{"let a = 1; export { a as default }; export default 1;", "Default1", api.ErrTwice},
		{"export default 1; export { default } from './x';", "ExportOne1", api.ErrTwice},
		{"export { x } from './x'; export { y as x } from './y';", "ExportOne2", api.ErrTwice},
		{"export * as n from './x'; export * as n from './x';", "ExportOne2", api.ErrTwice},
		{"export * as default from './x'; export default 1;", "Default1", api.ErrTwice},

		{"x;", "Name1", api.ErrName},
		{"x = 1;", "Name1", api.ErrName},
		{"x.y = 1;", "Name1", api.ErrName},
		{"new X();", "New1", api.ErrName},
		{"{ let a = 1; } a;", "Name1", api.ErrName},
		{"function f(a) {} a;", "Name1", api.ErrName},
		{"function f() { let a = 1; } class C { m() { return a; } }", "Name1", api.ErrName},
		{"class C { a = 1; m() { return a; } }", "Name1", api.ErrName},
		{"class C { m() { return m; } }", "Name1", api.ErrName},
		{"let x = { a: 1, b: a };", "Name1", api.ErrName},
		{"if (a) { let a = 1; }", "Name1", api.ErrName},
		{"while (a) { let a = 1; }", "Name1", api.ErrName},
		{"let x: (a: number) => number = a;", "Name1", api.ErrName},
		{"import { a as b } from './x'; a;", "Name2", api.ErrName},
		{"export { a } from './x'; a;", "Name1", api.ErrName},
		{"export * as a from './x'; a;", "Name2", api.ErrName},
		{"let a = 1; export { a as b }; b;", "Name2", api.ErrName},
		{"let x: T = 1;", "TypeName1", api.ErrName},
		{"function f(a: T) {}", "TypeName1", api.ErrName},
		{"function f(): T {}", "TypeName1", api.ErrName},
		{"let x: print = 1;", "TypeName1", api.ErrName},
		{"function f(T) { let x: T = 1; }", "TypeName1", api.ErrName},
		{"let T = 1; let x: T = 1;", "TypeName1", api.ErrName},
		{"const T = 1; let x: T[] = 1;", "TypeName1", api.ErrName},
		{"function T() {} let x: T = 1;", "TypeName1", api.ErrName},
		{"script: namespace n {} let x: n = 1;", "TypeName1", api.ErrName},
		{"export { q };", "ExportOne1", api.ErrName},
		{"export { print };", "ExportOne1", api.ErrName},
		{"{ let a = 1; } export { a };", "ExportOne1", api.ErrName},
		{"export { q as a }; let a = 1;", "ExportOne1", api.ErrName},
		{"script: namespace n { a = a; }", "Name1", api.ErrName},
		{"type T = number; T;", "Name1", api.ErrName},
		{"type T = number; new T();", "New1", api.ErrName},
		{"type T = number; function f() { return T; }", "Name1", api.ErrName},
		{"type print = number; print;", "Name1", api.ErrName},
		{"let a = 1; let a2: a = 1;", "TypeName1", api.ErrName},

		{"const a = 1; a = 2;", "Assign1", api.ErrConst},
		{"function a() {} a = 2;", "Assign1", api.ErrConst},
		{"class a {} a = 2;", "Assign1", api.ErrConst},
		{"type a = number; a = 2;", "Assign1", api.ErrConst},
		{"import { a } from './x'; a = 2;", "Assign1", api.ErrConst},
		{"import * as a from './x'; a = 2;", "Assign1", api.ErrConst},
		{"script: namespace a {} a = 2;", "Assign1", api.ErrConst},
		{"print = 1;", "Assign1", api.ErrConst},
		{"{ const a = 1; a = 2; }", "Assign1", api.ErrConst},
		{"let a = 1; { a = 2; const a = 3; }", "Assign1", api.ErrConst},
		{"{ a = 2; function a() {} }", "Assign1", api.ErrConst},
		{"let a = 1; a = (print = 1);", "Assign2", api.ErrConst},
		{"let f = 1; function g() { f = g; g = f; }", "Assign2", api.ErrConst},

		{"this;", "This1", api.ErrThis},
		{"function f() { this; }", "This1", api.ErrThis},
		{"let f = () => this;", "This1", api.ErrThis},
		{"class C { m() { function g() { return this; } } }", "This1", api.ErrThis},
		{"class C { constructor() { this; function g() { this; } } }", "This2", api.ErrThis},
		{"class C { x = () => { function g() { return () => this; } }; }", "This1", api.ErrThis},
		{"class C { m() { function g() {} return this; } } this;", "This2", api.ErrThis},
		{"return;", "Return1", api.ErrThis},
		{"return 1;", "Return1", api.ErrThis},
		{"if (1) { while (1) { return; } }", "Return1", api.ErrThis},
		{"function f() { return; } return;", "Return2", api.ErrThis},
		{"let f = () => { return 1; }; { return; }", "Return2", api.ErrThis},
		{"script: this;", "This1", api.ErrThis},
		{"script: return;", "Return1", api.ErrThis},
	} {
		checkFault(t, x)
	}
}

// 9.1: of several errors the first by its place is told; of one place, as they stand in the chapter.
func TestFirst(t *testing.T) {
	for _, x := range []fault{
		{"x; this; return;", "Name1", api.ErrName},
		{"this; x;", "This1", api.ErrThis},
		{"return x;", "Return1", api.ErrThis},
		{"x; let a = 1; let a = 2;", "Name1", api.ErrName},
		{"let a = 1; let a = x;", "Let2", api.ErrTwice},
		{"let a = x; let a = 1;", "Name1", api.ErrName},
		{"print = x;", "Assign1", api.ErrConst},
		{"x = (print = 1);", "Name1", api.ErrName},
		{"let a = 1; a = x; print = 1;", "Name2", api.ErrName},
		{"{ let a = 1; x; let a = 2; }", "Name1", api.ErrName},
		{"let a = 1; export { a as b, q as b };", "ExportOne2", api.ErrTwice},
		{"let a = 1; export { q as b, a as b };", "ExportOne1", api.ErrName},
		{"let b = 1; export { b, q as b };", "ExportOne2", api.ErrTwice},
		{"export let a = 1; export let a = x;", "Export2", api.ErrTwice},
		{"export default x; export default 1;", "Name1", api.ErrName},
		{"new X(this);", "New1", api.ErrName},
		{"let a: T = x;", "TypeName1", api.ErrName},
		{"a = 1; const a = 1; let a = 2;", "Assign1", api.ErrConst},
		{"a = 1; let a = 1; const a = 2;", "Let2", api.ErrTwice},
		{"{ a = 1; let a = 1; function a() {} }", "Function1", api.ErrTwice},
	} {
		checkFault(t, x)
	}
}

// 9.1: what stands close to an error, and is none.
func TestNoErrors(t *testing.T) {
	for _, source := range []string{
		"let a = 1; { let a = 1; { let a = 1; } { let a = 1; } }",
		"let a = 1; function f(a) { let a = 1; { function a() {} } }",
		"let f = (a) => (a) => a; let g = (a) => a;",
		"let print = 1; print = 2;",
		"{ let print = 1; print = 2; } function f(print) { print = 1; }",
		"export * from './x'; export * from './x'; export * from './y';",
		"export { a } from './x'; let a = 1;",
		"export { a as b } from './x'; export { b as a } from './x';",
		"let a = 1; export { a as default };",
		"export default function f() {} export { f };",
		"export default class C {} export { C };",
		"let a = 1; export default a; export { a };",
		"const a = {}; a.x = 1; a[a] = 2;",
		"import * as n from './x'; n.a = 1;",
		"print.x = 1;",
		"function f(a) { a = 1; let b = 1; b = a; return; }",
		"class C { x = this; constructor() { this.x = this; } m() { return () => this; } }",
		"class C { x = () => { return () => this; }; constructor() { return; } m() { if (this) { while (1) { return; } } } }",
		"let f = () => { return; };",
		"import type { T } from './x'; T;",
		"import type { T } from './x'; new T();",
		"import { T } from './x'; let x: T = 1;",
		"type T = number; function f(T) { T = T; new T(); }",
		"type T = number; { T = 1; let T = 2; }",
	} {
		if s, at, err := Resolve(read(t, source)); err != api.OK || at != 0 {
			t.Errorf("%q: %s", source, told(s, at, err))
		}
	}
}

func checkFault(t *testing.T, x fault) {
	t.Helper()
	n := read(t, x.source)
	s, at, err := Resolve(n)
	if err != x.want || placed(n)[at] != x.at {
		t.Errorf("%q: error %d at %s, want %d at %s", x.source, err, placed(n)[at], x.want, x.at)
	}
	if len(s.Tops)+len(s.Uses) > 0 {
		t.Errorf("%q: %v beside an error", x.source, s)
	}
}

// 9.1: places as numbers, as the chapter's examples have them.
func TestPlaces(t *testing.T) {
	for _, x := range []struct {
		source string
		at     int
		want   api.Errno
	}{
		{"x;", 2, api.ErrName},
		{"const a = 1; a = 2;", 5, api.ErrConst},
		{"let a = 1; let a = 2;", 4, api.ErrTwice},
		{"this;", 2, api.ErrThis},
		{"let x: T = 1;", 2, api.ErrName},
		{"type T = number; T;", 4, api.ErrName},
	} {
		if s, at, err := Resolve(read(t, x.source)); at != x.at || err != x.want {
			t.Errorf("%q: %s, want %d, %d", x.source, told(s, at, err), x.at, x.want)
		}
	}
	s, _, _ := Resolve(read(t, "const a = 1; function f(b: number) { let a = b; return a; }"))
	want := api.Scope{
		Tops: []api.Top{{Name: "a", Kind: api.Let, At: 1, Const: true}, {Name: "f", Kind: api.Function, At: 4, Item: 1, Const: true}},
		Uses: []api.Use{{At: 12, Kind: api.UseLocal, Decl: 6, Name: "b"}, {At: 14, Kind: api.UseLocal, Decl: 10, Name: "a"}},
	}
	if told(s, 0, 0) != told(want, 0, 0) {
		t.Errorf("%v, want %v", s, want)
	}
}

// 9.1: what is no whole module or script.
func TestErrTree(t *testing.T) {
	a, one := node(api.Name, "a"), api.Node{Kind: api.Num, N: 1}
	let := node(api.Let, "a", node(api.None, ""), one)
	for _, n := range []api.Node{
		{}, {Kind: -1}, {Kind: 99}, a, let, one, node(api.Block, "", let), node(api.Export, "", let), node(api.TypeName, "T"), node(api.Params, ""),
		node(api.Module, "", a), node(api.Module, "x", let), {Kind: api.Module, N: 1}, node(api.Module, "", node(api.Let, "a$1", node(api.None, ""), one)),
		node(api.Module, "", node(api.Let, "if", node(api.None, ""), one)), node(api.Module, "", node(api.Let, "a")), node(api.Module, "", node(api.Default, "")),
		node(api.Module, "", node(api.Import, "./x", node(api.ImportOne, "a"))), node(api.Module, "", node(api.ExportFrom, "", node(api.ExportOne, "*", node(api.None, "")))),
		node(api.Module, "", node(api.Space, "n")), node(api.Script, "", node(api.Export, "", let)), node(api.Script, "", node(api.Alias, "T", node(api.TypeName, "any"))),
		node(api.Module, "", node(api.Module, "")), node(api.Module, "", node(api.Block, "", node(api.Class, "C"))), node(api.Module, "", node(api.Function, "f", node(api.Params, ""))),
		node(api.Module, "", node(api.Expr, "", node(api.Assign, "", one, one))), node(api.Module, "", node(api.Expr, "", node(api.Assign, ""))),
	} {
		if s, at, err := Resolve(n); err != api.ErrTree || at != 0 || len(s.Tops)+len(s.Uses) > 0 {
			t.Errorf("%v of the form %d: %s", n, tree.Form(n), told(s, at, err))
		}
	}
}

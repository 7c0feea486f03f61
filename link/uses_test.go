package link

import (
	"strings"
	"testing"

	"gusset/api"
)

// A given is how a module gives something under the name x (or default), and whether that is a type, or a value.
type given struct {
	source      string
	name        string
	isType      bool
	isValue     bool
	otherModule string // what stands in /d, if it is asked for
}

var givens = []given{
	{"export let x = 1;", "x", false, true, ""},
	{"export const x = 1;", "x", false, true, ""},
	{"export function x() { }", "x", false, true, ""},
	{"export class x { }", "x", true, true, ""},
	{"export type x = number;", "x", true, false, ""},
	{"let y = 1; export { y as x };", "x", false, true, ""},
	{"class y { } export { y as x };", "x", true, true, ""},
	{"type y = number; export { y as x };", "x", true, false, ""},
	{"class y { } export type { y as x };", "x", true, false, ""},
	{"type y = number; export type { y as x };", "x", true, false, ""},
	{"export default 1;", "default", false, true, ""},
	{"export default function y() { }", "default", false, true, ""},
	{"export default class y { }", "default", true, true, ""},
	{"class y { } export { y as default };", "default", true, true, ""},
	{"export * as x from './d';", "x", false, true, ""},
	{"import * as y from './d'; export { y as x };", "x", false, true, ""},
	{"export { y as x } from './d';", "x", true, true, "export class y { }"},
	{"export type { y as x } from './d';", "x", true, false, "export class y { }"},
	{"import { y } from './d'; export { y as x };", "x", true, true, "export class y { }"},
	{"import type { y } from './d'; export { y as x };", "x", true, false, "export class y { }"},
	{"import { y } from './d'; export type { y as x };", "x", true, false, "export class y { }"},
	{"export * from './d';", "x", true, true, "export class x { }"},
	{"export * from './d';", "x", true, false, "export type x = number;"},
	{"export * from './d'; export * from './d';", "x", false, true, "export function x() { }"},
}

// A way leads from the entry's ? to the x of /b, over /c.
type way struct {
	item   string
	middle string
	types  bool
	typed  bool // /c itself asks for a type
}

var ways = []way{
	{"import { ? as z } from './b';", "", false, false},
	{"import type { ? as z } from './b';", "", true, false},
	{"import { x as z } from './c';", "export { ? as x } from './b';", false, false},
	{"import type { x as z } from './c';", "export { ? as x } from './b';", true, false},
	{"import { x as z } from './c';", "export type { ? as x } from './b';", true, true},
	{"import { x as z } from './c';", "import { ? as y } from './b'; export { y as x };", false, false},
	{"import { x as z } from './c';", "import type { ? as y } from './b'; export { y as x };", true, true},
	{"import { x as z } from './c';", "import { ? as y } from './b'; export type { y as x };", true, true},
	{"import z from './c';", "export { ? as default } from './b';", false, false},
	{"import type z from './c';", "export { ? as default } from './b';", true, false},
}

// fill has the name there in the place of the ?.
func fill(s, name string) string { return strings.ReplaceAll(s, "?", name) }

var typeUses = []string{"let u: z = 1;", "type U = z[];", "function u(a: z) { }", "class U { a: { b: (c: number) => z; } = 1; }", "{ let u: number | z = 1; }", "export type U = z;", "class U { constructor(a: z) { } }", "function u(): z { }"}

var valueUses = []string{"z;", "print(z);", "new z();", "z.a;", "z();", "let u = z;", "function u() { return z; }", "class U { a = z; m() { new z(); } }", "if (1) { while (z) { } }", "export default z;", "({ z });", "typeof z;", "[1, z];", "z.a = 1;"}

var otherUses = []string{"", "export { z };", "export { z as w, z as default };", "{ let z = 1; z; }", "function u(z: number) { return z; }", "print({ z: 1 }.z);"}

// 13.1, 13.2: each thing that is given, over each way, at each use: a type's place asks for a type, a value's for a value that is not led to by types alone, an export for neither.
func TestUses(t *testing.T) {
	for _, g := range givens {
		for _, w := range ways {
			sources := func(use string) []string {
				return all(use+" import './b'; import './c'; "+fill(w.item, g.name), g.source+" import './d';", fill(w.middle, g.name), g.otherModule)
			}
			if w.typed && !g.isType {
				// /c, which stands behind /d as /b asks for that, gives as a type what is none.
				refused(t, sources(""), 3, g.name, api.ErrType)
				continue
			}
			holdUses(t, sources, typeUses, g.isType)
			holdUses(t, sources, valueUses, g.isValue && !w.types)
			if strings.HasPrefix(w.item, "import type") && !g.isType {
				// An export of what is imported for types alone is of types alone itself.
				refused(t, sources(otherUses[1]), 0, there(w.item, g.name), api.ErrType)
				continue
			}
			holdUses(t, sources, otherUses, true)
		}
	}
}

// there is the name there of a way's item.
func there(item, name string) string {
	switch {
	case strings.Contains(item, "?"):
		return name
	case strings.Contains(item, "{ x"):
		return "x"
	}
	return "default"
}

func holdUses(t *testing.T, sources func(string) []string, uses []string, fit bool) {
	t.Helper()
	for _, u := range uses {
		if fit {
			refused(t, sources(u), 0, "", api.OK)
		} else {
			refused(t, sources(u), 0, "z", api.ErrType)
		}
	}
}

// 13.1: a namespace is a value, and no type; each use of it is looked at.
func TestSpaceUses(t *testing.T) {
	for _, sources := range [][]string{
		all("import * as z from './b'; ", ""),
		all("import { n as z } from './b'; ", "export * as n from './c';", ""),
		all("import { n as z } from './b'; ", "import * as m from './c'; export { m as n };", ""),
	} {
		with := func(use string) []string { return append(all(sources[0]+use), sources[1:]...) }
		holdUses(t, with, typeUses, false)
		holdUses(t, with, valueUses, true)
		holdUses(t, with, otherUses, true)
	}
}

// 13.1: of several uses the first by its place, whatever it is for, and wherever its import stands.
func TestUseOrder(t *testing.T) {
	b := "export let v = 1; export type T = number; export class C { }"
	hold(t, []sample{
		{all("import { v, T } from './b'; T; let x: v = 1;", b), 0, "T", api.ErrType},
		{all("import { v, T } from './b'; let x: v = T;", b), 0, "v", api.ErrType},
		{all("let x: v = 1; T; import { T, v } from './b';", b), 0, "v", api.ErrType},
		{all("T; let x: v = 1; import { T, v } from './b';", b), 0, "T", api.ErrType},
		{all("import { v, T } from './b'; v; let x: T = v; function f(a: T): C { new C(); } import type { C as D } from './b'; import { C } from './b'; D;", b), 0, "D", api.ErrType},
		{all("import type { C, v } from './b'; let x: C = 1; { { new C(v); } }", b), 0, "C", api.ErrType},
		{all("import type { C, v } from './b'; let x: C = 1; { { print(v, new C()); } }", b), 0, "v", api.ErrType},
		// The name here, not the one there.
		{all("import { T as S } from './b'; S;", b), 0, "S", api.ErrType},
		{all("import { v as w } from './b'; let x: w = 1;", b), 0, "w", api.ErrType},
		{all("import d from './b'; let x: d = 1;", "export default 1;"), 0, "d", api.ErrType},
		// Exports of them are passed over, those around them are not.
		{all("import { T, v } from './b'; export { T }; export { T as U, v }; T;", b), 0, "T", api.ErrType},
		{all("import { T, v } from './b'; export { T }; export { T as U, v }; let x: v = 1; export { T as W };", b), 0, "v", api.ErrType},
		// By modules.
		{all("import './b'; import { T } from './c'; T;", "import { T as U } from './c'; U;", "export type T = number;"), 0, "T", api.ErrType},
		{all("import './b'; import { T } from './c'; let x: T = 1;", "import { T as U } from './c'; U;", "export type T = number;"), 1, "U", api.ErrType},
		{all("import type { U } from './b';", "import { T } from './c'; T; export type U = number;", "export type T = number;"), 1, "T", api.ErrType},
	})
}

// 13.1: exports of types alone that lead to none: of what the module has the name here, of others the one there.
func TestTypesAlone(t *testing.T) {
	b := "export let v = 1; export type T = number; export class C { } export default 1; export * as n from './b'; export type { C as D };"
	hold(t, []sample{
		{all("let v = 1; export type { v };"), 0, "v", api.ErrType},
		{all("const v = 1; export type { v as w };"), 0, "v", api.ErrType},
		{all("export type { f as default }; function f() { }"), 0, "f", api.ErrType},
		{all("export default function f() { } export type { f as g };"), 0, "f", api.ErrType},
		{all("class C { } type T = number; export type { C, T as default };"), 0, "", api.OK},
		{all("export default class C { } export type { C }; export type T = C; export type { T as U };"), 0, "", api.OK},
		{all("export type { v } from './b';", b), 0, "v", api.ErrType},
		{all("export type { v as w } from './b';", b), 0, "v", api.ErrType},
		{all("export type { default } from './b';", b), 0, "default", api.ErrType},
		{all("export type { default as w } from './b';", b), 0, "default", api.ErrType},
		{all("export type { n } from './b';", b), 0, "n", api.ErrType},
		{all("export type { C, T as v, D } from './b';", b), 0, "", api.OK},
		{all("import * as m from './b'; export type { m };", b), 0, "*", api.ErrType},
		{all("import { n as m } from './b'; export type { m as k };", b), 0, "n", api.ErrType},
		{all("import { v as m } from './b'; export type { m as k };", b), 0, "v", api.ErrType},
		{all("import type { v as m } from './b'; export { m as k };", b), 0, "v", api.ErrType},
		{all("import type m from './b'; export type { m as k };", b), 0, "default", api.ErrType},
		{all("import type { C as m, T } from './b'; export { m as k }; export type { T };", b), 0, "", api.OK},
		// An import for types alone that nobody uses may be a value.
		{all("import type { v, n } from './b';", b), 0, "", api.OK},
		// Not of types alone: whatever it is.
		{all("let v = 1; type T = number; export { v, T }; export { n, C, default } from './b'; export * from './b';", b), 0, "", api.OK},
		{all("import './b';", "let v = 1; export type { v };"), 1, "v", api.ErrType},
	})
}

// 13.1: by items, whether of Own or of Others; in one item those of Own stand ahead. Uses of the module stand ahead of them all, those of the next one behind.
func TestTypesAloneOrder(t *testing.T) {
	b := "export let v = 1; export let w = 1; export type T = number;"
	hold(t, []sample{
		{all("let x = 1; export type { x }; export type { v } from './b';", b), 0, "x", api.ErrType},
		{all("let x = 1; export type { v } from './b'; export type { x };", b), 0, "v", api.ErrType},
		{all("let x = 1; export type { w } from './b'; export type { x }; export type { v } from './b';", b), 0, "w", api.ErrType},
		{all("let x = 1; let y = 2; export type { T } from './b'; export type { y, x }; export type { v } from './b';", b), 0, "y", api.ErrType},
		{all("export type { T, w, v } from './b';", b), 0, "w", api.ErrType},
		{all("import { v } from './b'; let x = 1; export type { v, x };", b), 0, "x", api.ErrType},
		{all("import { v, T } from './b'; class C { } export type { v, C, T };", b), 0, "v", api.ErrType},
		{all("let x = 1; export type { x }; import { T } from './b'; T;", b), 0, "T", api.ErrType},
		{all("export type { v } from './b'; let x: w = 1; import { w } from './b';", b), 0, "w", api.ErrType},
		{all("let x = 1; export type { x }; import './b';", "import { T } from './c'; T;", "export type T = number;"), 0, "x", api.ErrType},
		{all("export type { y } from './b';", "import { T } from './c'; T; export let y = 1;", "export type T = number;"), 0, "y", api.ErrType},
		{all("import './b';", "import './c'; let y = 1; export type { y };", "import { T } from './d'; T;", "export type T = number;"), 1, "y", api.ErrType},
	})
}

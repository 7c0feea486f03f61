package shake

import (
	"fmt"
	"strings"
	"testing"

	"gusset/api"
	"gusset/vfs"
)

// filled repeats a piece, with its number in the place of # and the next one in that of @, as often as a file has room for it; and how often that is. There is still room for something short.
func filled(ahead, piece string) (string, int) {
	var s strings.Builder
	s.WriteString(ahead)
	for i := 0; ; i++ {
		next := strings.NewReplacer("#", fmt.Sprint(i), "@", fmt.Sprint(i+1)).Replace(piece)
		if s.Len()+len(next)+50 > api.MaxBytes {
			return s.String(), i
		}
		s.WriteString(next)
	}
}

// lengths are how many roots, items that are kept, and namespaces there are.
func lengths(t *testing.T, l api.Linked, roots, keep, spaces int) {
	t.Helper()
	if r, k, s := len(Roots(l)), len(Keep(l)), len(Spaces(l)); r != roots || k != keep || s != spaces {
		t.Errorf("%d roots, %d kept, %d namespaces; want %d, %d, %d", r, k, s, roots, keep, spaces)
	}
}

// A large sample is a piece that a file is full of, with what stands ahead of it and behind it (# is how many pieces there are); how many roots and kept items each piece is, and how many else there are, and namespaces.
type large struct {
	ahead, piece, behind string
	roots, keep          int
	elseRoots, elseKept  int
	spaces               int
}

// 20.1, 20.2: files as long as they may be, full of one thing each.
func TestLarge(t *testing.T) {
	t.Parallel()
	for _, c := range []large{
		{"", "print(#);", "", 1, 1, 0, 0, 0},
		{"", "let x#=1;", "", 0, 0, 0, 0, 0},
		{"", "export let x#=1;", "", 1, 1, 0, 0, 0},
		{"", "function f#(){f@();}", "function f#(){}", 0, 0, 0, 0, 0},
		{"f0();", "function f#(){f@();}", "function f#(){}", 0, 1, 1, 2, 0},
		{"f1;", "function f@(){f#();}", "function f0(){}", 0, 0, 1, 3, 0},
		{"let a=1;f(a);", "let x#=()=>a;", "function f(){}", 0, 0, 1, 3, 0},
		{"import*as n from'./b';", "n;", "", 1, 1, 0, 1, 1},
		{"import*as n from'./b';", "function f#(){return n;}", "", 0, 0, 0, 0, 0},
		{"import{x}from'./b';", "let x#=x;", "", 1, 1, 0, 1, 0},
	} {
		a, pieces := filled(c.ahead, c.piece)
		l := linked(t, a+strings.ReplaceAll(c.behind, "#", fmt.Sprint(pieces)), "export let x=1;let y=1;")
		lengths(t, l, pieces*c.roots+c.elseRoots, pieces*c.keep+c.elseKept, c.spaces)
	}
}

// rest is how many modules there may be beside the entry.
const rest = api.MaxFiles - 1

// beside is an entry, with as many modules as there may be, /m0 and so on.
func beside(t *testing.T, entry string, source func(mod int) string) api.Linked {
	t.Helper()
	files := vfs.New()
	files.Write("/a.ts", entry)
	for mod := range rest {
		if err := files.Write(fmt.Sprintf("/m%d.ts", mod), source(mod)); err != api.OK {
			t.Fatal(err)
		}
	}
	l := relinked(t, files)
	if len(l.Graph.Mods) != api.MaxFiles {
		t.Fatal(len(l.Graph.Mods))
	}
	return l
}

// 20.2: functions of which each calls the next one, through full modules; the last one calls the first one.
func TestLongChain(t *testing.T) {
	t.Parallel()
	all := 0
	chain := func(mod int) string {
		s, pieces := filled(fmt.Sprintf("import{f0 as next}from'./m%d';export{f0};", (mod+1)%rest), "function f#(){f@();}")
		all += pieces + 1
		return s + fmt.Sprintf("function f%d(){next();}", pieces)
	}
	lengths(t, beside(t, "import './m0'; print(1);", chain), 1, 1, 0)
	all = 0
	l := beside(t, "import { f0 } from './m5'; f0();", chain)
	lengths(t, l, 1, all+1, 0)
	if all < 100000 {
		t.Error(all)
	}
}

// 20.2: modules that have the namespaces of all others, of which each uses one alone.
func TestManySpaces(t *testing.T) {
	t.Parallel()
	for step, spaces := range map[int]int{1: rest, 2: rest, 7: rest / 7, 21: 3, 0: 1} {
		l := beside(t, "import * as n from './m5'; print(n);", func(mod int) string {
			var s strings.Builder
			for other := range rest {
				fmt.Fprintf(&s, "import * as n%d from './m%d'; let x%d = () => n%d; ", other, other, other, other)
			}
			return s.String() + fmt.Sprintf("export { x%d };", (mod+step)%rest)
		})
		lengths(t, l, 1, 1+spaces, spaces)
	}
}

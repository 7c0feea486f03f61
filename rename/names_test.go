package rename

import (
	"fmt"
	"math"
	"strings"
	"testing"

	"gusset/api"
	"gusset/lex"
	"gusset/runes"
)

// 21.1: a name, $, and the module's number.
func TestName(t *testing.T) {
	for _, mod := range []int{0, 1, 7, 9, 10, 11, 19, 20, 63, 64, 99, 100, 101, 909, 1000, 65535, 1_000_000_007, math.MaxInt32, math.MaxInt - 1, math.MaxInt} {
		number := fmt.Sprint(mod)
		for _, name := range []string{"x", "default", "", "a b", "$", "a$1", "ä", "\xff", "\x00", strings.Repeat("long", 5000)} {
			if got := Name(mod, name); got != name+"$"+number {
				t.Errorf("%d, %.40q: %.40q", mod, name, got)
			}
		}
		if got := Space(mod); got != "$"+number {
			t.Errorf("%d: %q", mod, got)
		}
	}
	for mod := range 3000 {
		if got := Name(mod, "x"); got != fmt.Sprintf("x$%d", mod) {
			t.Errorf("%d: %q", mod, got)
		}
	}
	for _, mod := range []int{-1, -2, -10, math.MinInt32, math.MinInt + 1, math.MinInt} {
		if Name(mod, "x") != "" || Name(mod, "") != "" || Space(mod) != "" {
			t.Errorf("%d: %q, %q", mod, Name(mod, "x"), Space(mod))
		}
	}
}

// back holds what Back tells.
func back(t *testing.T, s string, mod int, name string, is bool) {
	t.Helper()
	gotMod, gotName, got := Back(s)
	if gotMod != mod || gotName != name || got != is {
		t.Errorf("%.40q: %d %.40q %t, want %d %.40q %t", s, gotMod, gotName, got, mod, name, is)
	}
}

// 21.1, 21.3: of what Name and Space tell the module and the name, if it may be one of a build.
func TestBackOfNames(t *testing.T) {
	names := []string{"x", "a1", "_", "_1", "ä", "Ω9", "яя", "long_Name_2", "print", "constructor", "type", strings.Repeat("n", 70000)}
	for _, name := range append(names, lex.Words()...) {
		for mod := range api.MaxFiles {
			back(t, Name(mod, name), mod, name, true)
		}
		for _, mod := range []int{api.MaxFiles, api.MaxFiles + 1, 99, 100, 640, math.MaxInt} {
			back(t, Name(mod, name), 0, "", false)
		}
	}
	for mod := range 300 {
		if mod < api.MaxFiles {
			back(t, Space(mod), mod, "", true)
			back(t, Name(mod, ""), mod, "", true)
		} else {
			back(t, Space(mod), 0, "", false)
		}
	}
}

// 21.1: names that are no property names, or have a $.
func TestBackOfWrongNames(t *testing.T) {
	for _, name := range []string{"$", "a$", "$a", "a$b", "a$1", "$1", "1", "1a", " ", " a", "a ", "a b", "a\n", "a.b", "-", "a-b", "×", "÷", "a×", "Σb€", "\u03a2", "\xff", "a\xff", "\xc3", "\x00", "'a'", "\u0301"} {
		back(t, Name(5, name), 0, "", false)
	}
	for _, s := range []string{"", "x", "0", "5", "x0", "ä", "if", "$", "$$", "x$", "x$$", "x$$1", "$$1", "x$1$", "x$1a", "x$a1", "x$ 1", "x$1 ", " $1", "x$+1", "x$-1", "x$-0", "$-1", "$+0", "x$00", "x$01", "x$007", "$00", "$01", "x$1_0", "x$0x1", "x$1.", "x$1e0", "x$１", "x$٣", "x$99999999999999999999", "x$18446744073709551617", "x$9223372036854775808", "x\x00$1", "x$1\x00", "x$\xff", "x$1$2"} {
		back(t, s, 0, "", false)
	}
}

// isName is chapter 4's and 5's words, of a text without $: a word, or letters, digits and _, not beginning with a digit.
func isName(s string) bool {
	for i, r := range s {
		if r != '_' && !runes.Letter(r) && (i == 0 || !runes.Digit(r)) {
			return false
		}
	}
	return true
}

// 21.1: all short texts of some signs, against the names and numbers that there are.
func TestBackOfShortTexts(t *testing.T) {
	signs := []string{"a", "ä", "_", "$", "0", "1", "6", "4", "9", " ", "-", "\xff"}
	texts := []string{""}
	is := 0
	for range 5 {
		var longer []string
		for _, s := range texts {
			for _, sign := range signs {
				longer = append(longer, s+sign)
			}
		}
		for _, s := range longer {
			mod, name, want := modelBack(s)
			if want {
				is++
			}
			back(t, s, mod, name, want)
			if t.Failed() {
				return
			}
		}
		texts = longer
	}
	if is < 1000 {
		t.Error(is)
	}
}

// modelBack tries all modules.
func modelBack(s string) (int, string, bool) {
	for mod := range api.MaxFiles {
		if name, ends := strings.CutSuffix(s, fmt.Sprintf("$%d", mod)); ends && isName(name) {
			return mod, name, true
		}
	}
	return 0, "", false
}

// 21.3: two tops have one name only if they are the same; no namespace has the name of a top, and no name of a module is either.
func TestNamesApart(t *testing.T) {
	names := []string{"a", "b", "a1", "a11", "a_1", "_", "_1", "default", "ä"}
	met := map[string]string{}
	add := func(s, what string) {
		if other, has := met[s]; has {
			t.Errorf("%q: %s, and %s", s, what, other)
		}
		met[s] = what
	}
	for _, name := range names {
		add(name, "the name "+name)
	}
	for mod := range 2000 {
		add(Space(mod), fmt.Sprint("the namespace ", mod))
		for _, name := range names {
			add(Name(mod, name), fmt.Sprint(name, " of ", mod))
		}
	}
}

package oper

import (
	"fmt"
	"math"
	"math/rand"
	"strings"
	"testing"

	"gusset/api"
	"gusset/value"
)

// 24.5: each name that there is, and some that there are not, with each number of arguments and each first one.
func TestBuiltins(t *testing.T) {
	for _, name := range []string{"push", "text", "parse", "print", "read", "", "Text", "text ", "typeof", "length", "pus", "-"} {
		for n := range 5 {
			for _, v := range spots(value.New()) {
				h := value.New()
				spots(h)
				args := []api.Value{v, word("b"), num(1), undef}[:min(n, 4)]
				if n == 4 {
					args = []api.Value{num(1), v}
				}
				want, wantEnd := undef, api.EndType
				switch {
				case name == "push" && n == 2 && v.Kind == api.ValueArray:
					want, wantEnd = num(1), api.EndDone
				case name == "text" && n == 1:
					want, wantEnd = word(h.Text(v)), api.EndDone
				case name == "parse" && n == 1 && v.Kind == api.ValueText:
					want, wantEnd = parsedAs(v.Text), api.EndDone
				}
				got, end := Builtin(h, name, args)
				holds(t, fmt.Sprintf("%s of %v", name, args), got, end, want, wantEnd)
				if name == "push" && wantEnd == api.EndType && (h.Len(of(api.ValueArray, 0)) != 0 || h.Len(of(api.ValueArray, 1)) != 0) {
					t.Fatalf("push of %v that is refused has changed an array", args)
				}
			}
		}
	}
	for _, args := range [][]api.Value{nil, {}} {
		for _, name := range []string{"push", "text", "parse"} {
			v, end := Builtin(value.New(), name, args)
			holds(t, name+" of nothing", v, end, undef, api.EndType)
		}
	}
}

// parsedAs is what parse should tell of a text, as the chapter has it: digits, one by one.
func parsedAs(s string) api.Value {
	digits := strings.TrimPrefix(s, "-")
	if digits == "" || digits[0] == '0' && s != "0" || len(digits) > 16 {
		return undef
	}
	n := 0
	for _, c := range []byte(digits) {
		if c < '0' || c > '9' {
			return undef
		}
		n = n*10 + int(c-'0')
	}
	switch {
	case n > 9007199254740991:
		return undef
	case digits != s:
		return num(-n)
	}
	return num(n)
}

// 24.5: parse of all short texts of some signs, and of numbers at the edge.
func TestParse(t *testing.T) {
	texts := []string{""}
	for first := 0; len(texts) < 20000; first++ {
		for _, sign := range "0159-+ _.ex٥" {
			texts = append(texts, texts[first]+string(sign))
		}
	}
	for _, s := range []string{"9007199254740991", "-9007199254740991", "9007199254740992", "-9007199254740992", "9007199254740990", "9999999999999999",
		"9223372036854775807", "9223372036854775808", "-9223372036854775808", "18446744073709551617", "00", "-00", "-01", "1\x00", "\n1", "1\n", "１", "0x10", "0b1", "1e3", "--1", "- 1", "Infinity", "NaN",
		strings.Repeat("9", 100000), strings.Repeat("0", 20) + "1"} {
		texts = append(texts, s)
	}
	numbers := 0
	for _, s := range texts {
		v, end := Builtin(nil, "parse", []api.Value{word(s)})
		holds(t, fmt.Sprintf("parse of %q", s), v, end, parsedAs(s), api.EndDone)
		if v != undef {
			numbers++
		}
	}
	if numbers < 100 {
		t.Errorf("%d numbers alone", numbers)
	}
}

// 24.5: parse of a number's Text is the number; any sign more, less or otherwise is another one or none.
func TestParseOfText(t *testing.T) {
	r := rand.New(rand.NewSource(245))
	for range 20000 {
		n := int(r.Uint64() >> (11 + r.Intn(53)))
		if r.Intn(2) == 0 {
			n = -n
		}
		said, end := Builtin(nil, "text", []api.Value{num(n)})
		holds(t, "text", said, end, word(fmt.Sprint(n)), api.EndDone)
		v, end := Builtin(nil, "parse", []api.Value{said})
		holds(t, "parse", v, end, num(n), api.EndDone)
		other := []byte(said.Text)
		other[r.Intn(len(other))] = "0123456789-+ "[r.Intn(13)]
		v, end = Builtin(nil, "parse", []api.Value{word(string(other))})
		holds(t, fmt.Sprintf("parse of %q", other), v, end, parsedAs(string(other)), api.EndDone)
	}
}

// 24.5: text of a value of each kind, and of texts up to MaxText bytes and beyond.
func TestText(t *testing.T) {
	h := value.New()
	for _, c := range []struct {
		v    api.Value
		want string
	}{
		{undef, "undefined"},
		{null, "null"},
		{boolean(true), "true"},
		{boolean(false), "false"},
		{num(-5), "-5"},
		{word("x"), "x"},
		{word(""), ""},
		{of(api.ValueArray, 7), "array"},
		{of(api.ValueObject, 7), "object"},
		{of(api.ValueFunc, 7), "function"},
		{of(api.ValueClass, 7), "class"},
		{of(api.ValueSpace, 7), "namespace"},
	} {
		v, end := Builtin(h, "text", []api.Value{c.v})
		holds(t, "text", v, end, word(c.want), api.EndDone)
	}
	for _, n := range []int{16383, 16384, 16385, 65536} {
		v, end := Builtin(h, "text", []api.Value{word(strings.Repeat("x", n))})
		if n > 16384 {
			holds(t, "text", v, end, undef, api.EndRange)
		} else {
			holds(t, "text", v, end, word(strings.Repeat("x", n)), api.EndDone)
		}
	}
}

// 24.5: each push tells one more, and what was pushed stands behind all.
func TestPush(t *testing.T) {
	h := value.New()
	a := h.Array([]api.Value{num(7)})
	for n := 2; n < 3000; n++ {
		v, end := Builtin(h, "push", []api.Value{a, num(n)})
		holds(t, "push", v, end, num(n), api.EndDone)
		x, end := Index(h, a, num(n-1))
		holds(t, "Index", x, end, num(n), api.EndDone)
	}
	v, end := Builtin(h, "push", []api.Value{a, a})
	holds(t, "push of itself", v, end, num(3000), api.EndDone)
}

// 24.5: a nil heap has nothing: no array has a place, no object a name, and nothing is set; operators and texts are as on any other.
func TestNil(t *testing.T) {
	array, object := of(api.ValueArray, 0), of(api.ValueObject, 0)
	for _, h := range []*value.Heap{nil, value.New(), {}} {
		for _, op := range ops {
			for _, a := range spots(value.New()) {
				for _, b := range spots(value.New()) {
					v, end := Binary(h, op, a, b)
					want, wantEnd := wanted(op, a, b)
					holds(t, op, v, end, want, wantEnd)
				}
			}
		}
		v, end := Member(h, array, "length")
		holds(t, "Member of an array", v, end, num(0), api.EndDone)
		v, end = Member(h, object, "a")
		holds(t, "Member of an object", v, end, undef, api.EndDone)
		v, end = Index(h, array, num(0))
		holds(t, "Index of an array", v, end, undef, api.EndDone)
		v, end = Index(h, object, word("a"))
		holds(t, "Index of an object", v, end, undef, api.EndDone)
		v, end = Member(h, word("ab"), "length")
		holds(t, "Member of a text", v, end, num(2), api.EndDone)
		v, end = Index(h, word("ab"), num(1))
		holds(t, "Index of a text", v, end, word("b"), api.EndDone)
		v, end = Builtin(h, "text", []api.Value{array})
		holds(t, "text", v, end, word("array"), api.EndDone)
		v, end = Builtin(h, "parse", []api.Value{word("12")})
		holds(t, "parse", v, end, num(12), api.EndDone)
		v, end = Builtin(h, "push", []api.Value{array, num(1)})
		holds(t, "push", v, end, undef, api.EndType)
		for _, k := range []int{0, 1, -1, math.MaxInt, math.MinInt} {
			if end := SetIndex(h, array, num(k), num(1)); end != api.EndRange {
				t.Error("SetIndex of an array:", end)
			}
		}
		if SetMember(h, object, "a", num(1)) != api.EndType || SetIndex(h, object, word("a"), num(1)) != api.EndType {
			t.Error("an object that there is not is set")
		}
	}
}

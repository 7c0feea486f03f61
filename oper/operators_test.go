package oper

import (
	"fmt"
	"math"
	"math/big"
	"math/rand"
	"strings"
	"testing"

	"gusset/api"
	"gusset/value"
)

// ops are all that are operators, and some that are none.
var ops = []string{"===", "!==", "+", "-", "*", "/", "%", "<", "<=", ">", ">=",
	"", "!", "typeof", "&&", "||", "==", "!=", "=", "**", "++", "<<", "&", "+ ", " +", "text", "push", "parse", "length"}

// numbers at the edges: of products, too (94906265 times itself is below MaxSafe, 94906266 times itself above).
var edges = []int{0, 1, -1, 2, -2, 3, 7, -7, 10, 94906265, -94906265, 94906266, -94906266, 1 << 26, 1 << 27, 1 << 31, 1 << 32, -1 << 32,
	api.MaxSafe / 2, api.MaxSafe/2 + 1, api.MaxSafe/3 + 1, api.MaxSafe - 1, api.MaxSafe, -api.MaxSafe, 1 - api.MaxSafe}

// spots are values of all kinds, two of each alike and unlike, at the edges of their kinds.
func spots(h *value.Heap) []api.Value {
	l := []api.Value{undef, null, boolean(false), boolean(true)}
	for _, n := range edges {
		l = append(l, num(n))
	}
	for _, s := range []string{"", "a", "b", "A", "aa", "ä", "z", "\xff", "\uffff", "\U0001F600", "a\x00", "1", "10", "9", "-1", "null", "true", "undefined"} {
		l = append(l, word(s))
	}
	l = append(l, h.Array(nil), h.Array(nil), h.Object(nil, nil), h.Object(nil, nil))
	for kind := api.ValueFunc; kind <= api.ValueSpace; kind++ {
		l = append(l, of(kind, 0), of(kind, 1))
	}
	return append(l, api.Value{Kind: api.ValueNumber, N: 1, Text: "x"}, api.Value{Kind: api.ValueText, N: 3, Text: "a"})
}

// saying is the Text of what a text may be laid beside, as the chapter has it.
func saying(v api.Value) (string, bool) {
	switch v.Kind {
	case api.ValueUndef:
		return "undefined", true
	case api.ValueNull:
		return "null", true
	case api.ValueBool:
		return fmt.Sprint(v.N == 1), true
	case api.ValueNumber:
		return fmt.Sprint(v.N), true
	case api.ValueText:
		return v.Text, true
	}
	return "", false
}

func whole(n *big.Int) (api.Value, int) {
	if n.CmpAbs(big.NewInt(api.MaxSafe)) > 0 {
		return undef, api.EndRange
	}
	return num(int(n.Int64())), api.EndDone
}

// ofNumbers is what the chapter says of two numbers.
func ofNumbers(op string, m, n int) (api.Value, int) {
	a, b := big.NewInt(int64(m)), big.NewInt(int64(n))
	switch op {
	case "+":
		return whole(new(big.Int).Add(a, b))
	case "-":
		return whole(new(big.Int).Sub(a, b))
	case "*":
		return whole(new(big.Int).Mul(a, b))
	case "/", "%":
		if n == 0 {
			return undef, api.EndRange
		}
		size, left := new(big.Int).QuoRem(new(big.Int).Abs(a), new(big.Int).Abs(b), new(big.Int))
		if op == "%" {
			return whole(left.Mul(left, big.NewInt(int64(a.Sign()))))
		}
		return whole(size.Mul(size, big.NewInt(int64(a.Sign()*b.Sign()))))
	}
	return ofOrder(op, a.Cmp(b))
}

func ofTexts(op string, a, b string) (api.Value, int) {
	order := len(a) - len(b)
	for i := range min(len(a), len(b)) {
		if a[i] != b[i] {
			order = int(a[i]) - int(b[i])
			break
		}
	}
	return ofOrder(op, order)
}

func ofOrder(op string, order int) (api.Value, int) {
	switch op {
	case "<":
		return boolean(order < 0), api.EndDone
	case "<=":
		return boolean(order <= 0), api.EndDone
	case ">":
		return boolean(order > 0), api.EndDone
	case ">=":
		return boolean(order >= 0), api.EndDone
	}
	return undef, api.EndType
}

// wanted is what the chapter says of an operator and two values.
func wanted(op string, a, b api.Value) (api.Value, int) {
	left, plainLeft := saying(a)
	right, plainRight := saying(b)
	switch {
	case op == "===":
		return boolean(value.Same(a, b)), api.EndDone
	case op == "!==":
		return boolean(!value.Same(a, b)), api.EndDone
	case a.Kind == api.ValueNumber && b.Kind == api.ValueNumber:
		return ofNumbers(op, a.N, b.N)
	case op == "+" && (a.Kind == api.ValueText && plainRight || b.Kind == api.ValueText && plainLeft):
		if len(left+right) > 16384 {
			return undef, api.EndRange
		}
		return word(left + right), api.EndDone
	case a.Kind == api.ValueText && b.Kind == api.ValueText:
		return ofTexts(op, a.Text, b.Text)
	}
	return undef, api.EndType
}

// 24.2: each operator, and what is none, of each pair of values.
func TestBinary(t *testing.T) {
	h := value.New()
	l := spots(h)
	ends := map[int]int{}
	for _, op := range ops {
		for _, a := range l {
			for _, b := range l {
				v, end := Binary(h, op, a, b)
				want, wantEnd := wanted(op, a, b)
				ends[wantEnd]++
				if v != want || end != wantEnd {
					t.Fatalf("%v %s %v: %v, %d, want %v, %d", a, op, b, v, end, want, wantEnd)
				}
			}
		}
	}
	for _, end := range []int{api.EndDone, api.EndType, api.EndRange} {
		if ends[end] < 100 {
			t.Errorf("the end %d was met %d times alone", end, ends[end])
		}
	}
}

// 24.2, 24.6: number operators tell what whole numbers do, or EndRange, at numbers of all sizes.
func TestNumbers(t *testing.T) {
	r := rand.New(rand.NewSource(242))
	h := value.New()
	made := func() int {
		n := int(r.Uint64() >> (11 + r.Intn(53)))
		if r.Intn(2) == 0 {
			return -n
		}
		return n
	}
	for range 200000 {
		op, a, b := ops[2+r.Intn(9)], made(), made()
		v, end := Binary(h, op, num(a), num(b))
		want, wantEnd := ofNumbers(op, a, b)
		if v != want || end != wantEnd {
			t.Fatalf("%d %s %d: %v, %d, want %v, %d", a, op, b, v, end, want, wantEnd)
		}
	}
}

// 24.2: numbers around the edge of what there is, by each way there.
func TestEdgeOfNumbers(t *testing.T) {
	const most = api.MaxSafe
	for _, c := range []struct {
		a    int
		op   string
		b    int
		want int
		end  int
	}{
		{most, "+", 0, most, api.EndDone},
		{most - 1, "+", 1, most, api.EndDone},
		{most, "+", 1, 0, api.EndRange},
		{most, "+", most, 0, api.EndRange},
		{-most, "+", -1, 0, api.EndRange},
		{1 - most, "+", -1, -most, api.EndDone},
		{most, "-", -1, 0, api.EndRange},
		{most, "-", most, 0, api.EndDone},
		{0, "-", most, -most, api.EndDone},
		{-most, "-", 1, 0, api.EndRange},
		{most, "*", 1, most, api.EndDone},
		{most, "*", -1, -most, api.EndDone},
		{most, "*", 2, 0, api.EndRange},
		{most, "*", most, 0, api.EndRange},
		{1 << 32, "*", 1 << 32, 0, api.EndRange},
		{1 << 26, "*", 1 << 27, 0, api.EndRange},
		{1<<26 - 1, "*", 1 << 27, (1<<26 - 1) << 27, api.EndDone},
		{0, "*", -5, 0, api.EndDone},
		{0, "/", -5, 0, api.EndDone},
		{-6, "%", 3, 0, api.EndDone},
		{0, "/", 0, 0, api.EndRange},
		{0, "%", 0, 0, api.EndRange},
		{-1, "%", 0, 0, api.EndRange},
		{most, "/", -1, -most, api.EndDone},
		{-1, "/", 2, 0, api.EndDone},
	} {
		v, end := Binary(nil, c.op, num(c.a), num(c.b))
		want := num(c.want)
		if c.end != api.EndDone {
			want = undef
		}
		holds(t, fmt.Sprint(c.a, c.op, c.b), v, end, want, c.end)
	}
}

// 24.2, 24.6: texts added have at most MaxText bytes, of whatever they are made; bytes are counted, not runes.
func TestLongTexts(t *testing.T) {
	h := value.New()
	of := func(n int) string { return strings.Repeat("x", n) }
	for _, c := range []struct {
		a, b api.Value
		end  int
	}{
		{word(of(16384)), word(""), api.EndDone},
		{word(""), word(of(16384)), api.EndDone},
		{word(of(16385)), word(""), api.EndRange},
		{word(""), word(of(16385)), api.EndRange},
		{word(of(8192)), word(of(8192)), api.EndDone},
		{word(of(8192)), word(of(8193)), api.EndRange},
		{word(of(16383)), num(5), api.EndDone},
		{num(-5), word(of(16383)), api.EndRange},
		{num(-5), word(of(16382)), api.EndDone},
		{word(of(16380)), null, api.EndDone},
		{word(of(16381)), null, api.EndRange},
		{undef, word(of(16375)), api.EndDone},
		{undef, word(of(16376)), api.EndRange},
		{word(of(16380)), boolean(true), api.EndDone},
		{word(of(16380)), boolean(false), api.EndRange},
		{word(strings.Repeat("ä", 8192)), word(""), api.EndDone},
		{word(strings.Repeat("ä", 8192)), word("x"), api.EndRange},
		{word(of(65536)), word(of(65536)), api.EndRange},
	} {
		v, end := Binary(h, "+", c.a, c.b)
		left, _ := saying(c.a)
		right, _ := saying(c.b)
		want := word(left + right)
		if c.end != api.EndDone {
			want = undef
		}
		if v != want || end != c.end {
			t.Errorf("%d and %d bytes: %d bytes, %d, want %d", len(left), len(right), len(v.Text), end, c.end)
		}
	}
	// What is longer may be compared still.
	long := word(of(20000))
	v, end := Binary(h, "<", word(of(19999)), long)
	holds(t, "<", v, end, boolean(true), api.EndDone)
	v, end = Binary(h, "===", word(of(20000)), long)
	holds(t, "===", v, end, boolean(true), api.EndDone)
}

// 24.1: each operator, and what is none, of each value.
func TestUnary(t *testing.T) {
	h := value.New()
	for _, op := range ops {
		for _, v := range spots(h) {
			want, wantEnd := undef, api.EndType
			switch {
			case op == "-" && v.Kind == api.ValueNumber:
				want, wantEnd = num(0-v.N), api.EndDone
			case op == "!":
				want, wantEnd = boolean(!value.Truth(v)), api.EndDone
			case op == "typeof":
				want, wantEnd = word(value.Typeof(v)), api.EndDone
			}
			got, end := Unary(op, v)
			holds(t, fmt.Sprint(op, " of ", v), got, end, want, wantEnd)
		}
	}
	// What is asked of layer 23 is told there: one of each here.
	for _, c := range []struct {
		op   string
		v    api.Value
		want api.Value
	}{
		{"-", num(5), num(-5)},
		{"-", num(0), num(0)},
		{"-", num(-api.MaxSafe), num(api.MaxSafe)},
		{"!", undef, boolean(true)},
		{"!", word(""), boolean(true)},
		{"!", word("0"), boolean(false)},
		{"!", num(0), boolean(true)},
		{"!", of(api.ValueArray, 0), boolean(false)},
		{"typeof", null, word("object")},
		{"typeof", undef, word("undefined")},
		{"typeof", of(api.ValueClass, 0), word("function")},
	} {
		v, end := Unary(c.op, c.v)
		holds(t, fmt.Sprint(c.op, " of ", c.v), v, end, c.want, api.EndDone)
	}
}

// 24.6: a === b is the other one of a !== b, and it is the same from both sides.
func TestSameOrNot(t *testing.T) {
	h := value.New()
	l := spots(h)
	for _, a := range l {
		for _, b := range l {
			is, end := Binary(h, "===", a, b)
			not, endNot := Binary(h, "!==", a, b)
			other, endOther := Binary(h, "===", b, a)
			if end != api.EndDone || endNot != api.EndDone || endOther != api.EndDone {
				t.Fatal("=== ends:", end, endNot, endOther)
			}
			if is == not || is != other || is != boolean(is.N == 1) || not != boolean(not.N == 1) {
				t.Errorf("%v and %v: %v, %v, %v", a, b, is, not, other)
			}
		}
	}
}

// R1: values that nobody hands in: of a Kind that is none, and numbers that are too great; an answer is of a kind that there is, and its number no greater than MaxSafe.
func TestSpoilt(t *testing.T) {
	h := value.New()
	l := spots(h)
	for _, kind := range []int{math.MinInt, -1, 10, 11, 15, 16, 17, 31, 32, 63, 64, 65, math.MaxInt} {
		l = append(l, of(kind, 1))
	}
	for _, n := range []int{math.MinInt, math.MinInt + 1, math.MaxInt, api.MaxSafe + 1, -api.MaxSafe - 1, 1 << 62} {
		l = append(l, num(n), of(api.ValueArray, n), of(api.ValueObject, n), of(api.ValueBool, n))
	}
	for _, a := range l {
		for _, op := range ops {
			v, end := Unary(op, a)
			sound(t, fmt.Sprint(op, " of ", a), v, end)
			for _, b := range l {
				v, end := Binary(h, op, a, b)
				sound(t, fmt.Sprint(a, op, b), v, end)
			}
		}
		if a.Kind < 0 || a.Kind > api.ValueSpace {
			v, end := Binary(h, "===", a, a)
			holds(t, fmt.Sprint(a, "=== itself"), v, end, boolean(true), api.EndDone)
			v, end = Unary("!", a)
			holds(t, fmt.Sprint("! of ", a), v, end, boolean(false), api.EndDone)
			for _, op := range ops[2:11] {
				v, end := Binary(h, op, a, word("x"))
				holds(t, fmt.Sprint(a, op, " a text"), v, end, undef, api.EndType)
			}
		}
	}
}

func sound(t *testing.T, what string, v api.Value, end int) {
	t.Helper()
	switch {
	case end != api.EndDone && end != api.EndType && end != api.EndRange:
		t.Fatal(what, "ends", end)
	case end != api.EndDone && v != undef:
		t.Fatal(what, "ends", end, "with", v)
	case v.Kind == api.ValueNumber && (v.N > api.MaxSafe || v.N < -api.MaxSafe):
		t.Fatal(what, "is", v)
	}
}

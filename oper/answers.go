package oper

import (
	"cmp"
	"math/bits"
	"strconv"
	"strings"

	"gusset/api"
	"gusset/value"
)

// number is a number as an answer.
func number(n int) (api.Value, int) {
	if size(n) > api.MaxSafe {
		return api.Value{}, api.EndRange
	}
	return api.Value{Kind: api.ValueNumber, N: n}, api.EndDone
}

func truth(is bool) (api.Value, int) {
	if is {
		return api.Value{Kind: api.ValueBool, N: 1}, api.EndDone
	}
	return api.Value{Kind: api.ValueBool}, api.EndDone
}

func text(s string) (api.Value, int) {
	return api.Value{Kind: api.ValueText, Text: s}, api.EndDone
}

// found is what the heap tells of a thing: what it has not is undefined.
func found(v api.Value, _ bool) (api.Value, int) {
	return v, api.EndDone
}

// size is how far a number is from 0; of the least int that is no int.
func size(n int) uint64 {
	if n < 0 {
		return -uint64(n)
	}
	return uint64(n)
}

func times(a, b int) (api.Value, int) {
	high, low := bits.Mul64(size(a), size(b))
	if high > 0 || low > api.MaxSafe {
		return api.Value{}, api.EndRange
	}
	return number(a * b)
}

func over(a, b int) (api.Value, int) {
	if b == 0 {
		return api.Value{}, api.EndRange
	}
	return number(a / b)
}

func left(a, b int) (api.Value, int) {
	if b == 0 {
		return api.Value{}, api.EndRange
	}
	return number(a % b)
}

// compare holds two numbers or two texts against each other.
func compare(a, b api.Value) int {
	if a.Kind == api.ValueText {
		return strings.Compare(a.Text, b.Text)
	}
	return cmp.Compare(a.N, b.N)
}

// textOf is the Text of a value; a text itself is not copied, as what it is laid into is a copy.
func textOf(h *value.Heap, v api.Value) string {
	if v.Kind == api.ValueText {
		return v.Text
	}
	return h.Text(v)
}

func joined(a, b string) (api.Value, int) {
	if len(a)+len(b) > api.MaxText {
		return api.Value{}, api.EndRange
	}
	// A + would hand out the memory of the one, where the other is empty.
	return text(strings.Join([]string{a, b}, ""))
}

// pushed is the length of an array behind a Push.
func pushed(h *value.Heap, l, x api.Value) (api.Value, int) {
	if !h.Push(l, x) {
		return api.Value{}, api.EndType
	}
	return number(h.Len(l))
}

// parsed is the number whose text it is: what strconv reads beside that is said otherwise again.
func parsed(s string) (api.Value, int) {
	n, err := strconv.Atoi(s)
	if err != nil || strconv.Itoa(n) != s || size(n) > api.MaxSafe {
		return api.Value{}, api.EndDone
	}
	return number(n)
}

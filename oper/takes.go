package oper

import "gusset/api"

// kinds is a set of kinds of values, a bit each.
type kinds uint16

const (
	undefs  kinds = 1 << api.ValueUndef
	nulls   kinds = 1 << api.ValueNull
	bools   kinds = 1 << api.ValueBool
	numbers kinds = 1 << api.ValueNumber
	texts   kinds = 1 << api.ValueText

	// plain are those that + lays beside a text.
	plain = undefs | nulls | bools | numbers | texts

	// others have a Kind that is none.
	others kinds = 1 << (api.ValueSpace + 1)

	every = others<<1 - 1

	// nothing stands where an operator has no second value: it is no kind of one.
	nothing = others << 1
)

// What an operator does of values that it takes.
const (
	none = iota
	opposite
	not
	tell
	same
	differ
	join
	sum
	difference
	product
	quotient
	rest
	below
	atMost
	above
	atLeast
)

// rows say which kinds an operator takes, and what it does of these.
var rows = []struct {
	op            string
	first, second kinds
	does          int
}{
	{"-", numbers, nothing, opposite},
	{"!", every, nothing, not},
	{"typeof", every, nothing, tell},
	{"===", every, every, same},
	{"!==", every, every, differ},
	{"+", numbers, numbers, sum},
	{"+", texts, plain, join},
	{"+", plain, texts, join},
	{"-", numbers, numbers, difference},
	{"*", numbers, numbers, product},
	{"/", numbers, numbers, quotient},
	{"%", numbers, numbers, rest},
	{"<", numbers, numbers, below},
	{"<", texts, texts, below},
	{"<=", numbers, numbers, atMost},
	{"<=", texts, texts, atMost},
	{">", numbers, numbers, above},
	{">", texts, texts, above},
	{">=", numbers, numbers, atLeast},
	{">=", texts, texts, atLeast},
}

// does is what an operator does of a value of the one kind and one of the other, none if it does not take them.
func does(op string, first, second kinds) int {
	for _, r := range rows {
		if r.op == op && r.first&first != 0 && r.second&second != 0 {
			return r.does
		}
	}
	return none
}

// kindOf is a value's kind, as a set of it alone.
func kindOf(v api.Value) kinds {
	if v.Kind < 0 || v.Kind > api.ValueSpace {
		return others
	}
	return 1 << v.Kind
}

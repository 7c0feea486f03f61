package check

import (
	"slices"

	"gusset/api"
)

// builtin is the type of a builtin.
func builtin(name string) api.Type {
	value, number, text := anything(), api.Type{Kind: api.TypeNumber}, api.Type{Kind: api.TypeString}
	undef := api.Type{Kind: api.TypeUndef}
	switch name {
	case "print":
		return fnOf(undef, value)
	case "read":
		return fnOf(eitherOf(text, undef))
	case "push":
		return fnOf(number, api.Type{Kind: api.TypeList, List: []api.Type{value}}, value)
	case "text":
		return fnOf(text, value)
	case "parse":
		return fnOf(eitherOf(number, undef), text)
	}
	return value
}

// fnOf is the type of a function of what it answers and its parameters.
func fnOf(answer api.Type, params ...api.Type) api.Type {
	return api.Type{Kind: api.TypeFn, List: append(slices.Clone(params), answer)}
}

// eitherOf is the union of two types that rise.
func eitherOf(a, b api.Type) api.Type {
	return api.Type{Kind: api.TypeEither, List: []api.Type{a, b}}
}

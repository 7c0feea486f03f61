package types

import (
	"slices"
	"strings"

	"gusset/api"
)

// either is the union of types that may be, none of them any; it shares their lists.
func either(l []api.Type) api.Type {
	var parts []api.Type
	for _, t := range l {
		if t.Kind == api.TypeEither {
			parts = append(parts, t.List...)
		} else {
			parts = append(parts, t)
		}
	}
	slices.SortFunc(parts, Compare)
	parts = slices.CompactFunc(parts, same)
	if len(parts) == 1 {
		return parts[0]
	}
	return api.Type{Kind: api.TypeEither, List: parts}
}

func same(a, b api.Type) bool {
	return Compare(a, b) == 0
}

// handOut answers a type that may be, unless it is too large, in new memory.
func handOut(t api.Type) (api.Type, api.Errno) {
	if isLarge(t) {
		return api.Type{}, api.ErrComplex
	}
	return copyType(t), api.OK
}

func copyType(t api.Type) api.Type {
	return api.Type{Kind: t.Kind, N: t.N, Names: copyList(t.Names, strings.Clone), List: copyList(t.List, copyType)}
}

// copyList has no room to spare, in which two lists could meet.
func copyList[T any](l []T, one func(T) T) []T {
	if len(l) == 0 {
		return nil
	}
	c := make([]T, len(l))
	for i := range l {
		c[i] = one(l[i])
	}
	return c
}

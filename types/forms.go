package types

import (
	"strings"

	"gusset/api"
)

// mayBe tells whether a type may be, with all in it.
func mayBe(t api.Type) bool {
	return isShaped(t) && allMayBe(t.List)
}

func allMayBe(l []api.Type) bool {
	for _, t := range l {
		if !mayBe(t) {
			return false
		}
	}
	return true
}

// isShaped tells whether a type has what its kind asks for, and nothing beside; whether those in List may be is not asked.
func isShaped(t api.Type) bool {
	switch t.Kind {
	case api.TypeAny, api.TypeNumber, api.TypeString, api.TypeBoolean, api.TypeNull, api.TypeUndef:
		if t.N != 0 {
			return false
		}
		fallthrough
	case api.TypeInst, api.TypeClass, api.TypeSpace:
		return t.N >= 0 && len(t.Names) == 0 && len(t.List) == 0
	case api.TypeRecord:
		return t.N == 0 && len(t.Names) == len(t.List) && rise(t.Names, strings.Compare)
	case api.TypeList:
		return t.N == 0 && len(t.Names) == 0 && len(t.List) == 1
	case api.TypeEither:
		if len(t.List) < 2 || !areParts(t.List) {
			return false
		}
		fallthrough
	case api.TypeFn:
		return t.N == 0 && len(t.Names) == 0 && len(t.List) > 0
	}
	return false
}

// areParts tells whether a TypeEither may have these.
func areParts(l []api.Type) bool {
	for _, t := range l {
		if t.Kind == api.TypeEither || isAny(t) {
			return false
		}
	}
	return rise(l, Compare)
}

// rise tells whether each is greater than the one ahead.
func rise[T any](l []T, compare func(a, b T) int) bool {
	for i := 1; i < len(l); i++ {
		if compare(l[i-1], l[i]) >= 0 {
			return false
		}
	}
	return true
}

func isAny(t api.Type) bool {
	return t.Kind == api.TypeAny
}

func isLarge(t api.Type) bool {
	return Size(t) > api.MaxType
}

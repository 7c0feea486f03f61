package sub

import (
	"slices"
	"strings"

	"gusset/api"
	"gusset/types"
)

// member is Member's answer, which may share memory with what was handed in.
func member(t api.Type, name string, classes []api.ClassInfo) (api.Type, bool) {
	switch t.Kind {
	case api.TypeAny:
		return api.Type{Kind: api.TypeAny}, true
	case api.TypeRecord:
		at := slices.Index(t.Names, name)
		return partAt(t.List, at)
	case api.TypeInst:
		return memberOfClass(t.N, name, classes)
	case api.TypeString, api.TypeList:
		if name == "length" {
			return api.Type{Kind: api.TypeNumber}, true
		}
	case api.TypeEither:
		return memberOfEach(t.List, name, classes)
	}
	return api.Type{}, false
}

func memberOfClass(class int, name string, classes []api.ClassInfo) (api.Type, bool) {
	info, ok := partAt(classes, class)
	if !ok {
		return api.Type{}, false
	}
	at := slices.IndexFunc(info.Members, func(s api.Slot) bool { return s.Name == name })
	slot, ok := partAt(info.Members, at)
	return slot.Type, ok
}

func memberOfEach(l []api.Type, name string, classes []api.ClassInfo) (api.Type, bool) {
	var found []api.Type
	for _, part := range l {
		t, ok := member(part, name, classes)
		if !ok {
			return api.Type{}, false
		}
		found = append(found, t)
	}
	t, err := types.Union(found...)
	return t, err == api.OK
}

// partAt is the one at a place, if there is such a place.
func partAt[T any](parts []T, at int) (T, bool) {
	if at < 0 || at >= len(parts) {
		var none T
		return none, false
	}
	return parts[at], true
}

func copyType(t api.Type) api.Type {
	return api.Type{Kind: t.Kind, N: t.N, Names: copyList(t.Names, strings.Clone), List: copyList(t.List, copyType)}
}

// copyList has no room to spare, in which two lists could meet.
func copyList[T any](l []T, one func(T) T) []T {
	if len(l) == 0 {
		return nil
	}
	c := make([]T, len(l))
	for i := range l {
		c[i] = one(l[i])
	}
	return c
}

package sign

import (
	"slices"
	"strings"

	"gusset/api"
	"gusset/types"
)

// A signer gathers what the items of modules declare, module by module.
type signer struct {
	*reader
	signs api.Signs
}

// addModule adds a module's classes and tops.
func (s *signer) addModule(mod int, module api.Node) api.Errno {
	found := map[string]api.Type{}
	for _, item := range module.Kids {
		n := held(item)
		t, err := s.declared(mod, n)
		if err != api.OK {
			return err
		}
		if t.Kind != 0 {
			found[n.Text] = t
		}
	}
	s.signs.Tops = append(s.signs.Tops, gathered(found))
	return api.OK
}

// declared is what a declaration declares; a zero type, if it is nothing.
func (s *signer) declared(mod int, n api.Node) (api.Type, api.Errno) {
	switch n.Kind {
	case api.Let:
		if kid(n, 0).Kind != api.None {
			return s.read(mod, kid(n, 0))
		}
	case api.Function:
		return s.read(mod, n)
	case api.Alias:
		return s.readTop(binding{mod, n.Text})
	case api.Class:
		info, err := s.classInfo(mod, n)
		s.signs.Classes = append(s.signs.Classes, info)
		return s.known[binding{mod, n.Text}], err
	}
	return api.Type{}, api.OK
}

// classInfo reads a class's members as they stand in its tree, so that the first error is the one furthest left.
func (s *signer) classInfo(mod int, class api.Node) (api.ClassInfo, api.Errno) {
	info := api.ClassInfo{Mod: mod, Name: strings.Clone(class.Text)}
	found := map[string]api.Type{}
	for _, member := range class.Kids {
		var err api.Errno
		switch member.Kind {
		case api.Field:
			found[member.Text], err = s.read(mod, kid(member, 0))
		case api.Ctor:
			info.Params, err = s.readAll(mod, paramTypes(member))
		case api.Method:
			found[member.Text], err = s.read(mod, member)
		}
		if err != api.OK {
			return api.ClassInfo{}, err
		}
	}
	info.Members = gathered(found)
	return info, api.OK
}

// readAll reads trees each of which stands alone: however many there are, none is too large by the others.
func (s *signer) readAll(mod int, trees []api.Node) ([]api.Type, api.Errno) {
	var all []api.Type
	for _, n := range trees {
		t, err := s.read(mod, n)
		if err != api.OK {
			return nil, err
		}
		all = append(all, copied(t))
	}
	return all, api.OK
}

// gathered are the slots of what was found, by rising names, in new memory.
func gathered(found map[string]api.Type) []api.Slot {
	var slots []api.Slot
	for name, t := range found {
		slots = append(slots, api.Slot{Name: strings.Clone(name), Type: copied(t)})
	}
	slices.SortFunc(slots, compareNames)
	return slots
}

func compareNames(a, b api.Slot) int {
	return strings.Compare(a.Name, b.Name)
}

// copied is a type in new memory: the union of one type is that type.
func copied(t api.Type) api.Type {
	c, _ := types.Union(t)
	return c
}

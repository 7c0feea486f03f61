package parse

import (
	"gusset/api"
	"gusset/cursor"
)

func (r *reader) aType() api.Node {
	r.begin()
	var l []api.Node
	for more := true; more; more = r.Take("|") {
		n := r.postType()
		if n.Kind == api.TypeUnion {
			l = append(l, n.Kids...)
		} else {
			l = append(l, n)
		}
	}
	r.end()
	if len(l) == 1 {
		return l[0]
	}
	return cursor.Node(api.TypeUnion, "", l...)
}

// typing reads a : and a Type.
func (r *reader) typing() api.Node {
	r.Want(":")
	return r.aType()
}

// typeOrNone reads the same, or nothing, which is a None.
func (r *reader) typeOrNone() api.Node {
	if r.Stands(":") {
		return r.typing()
	}
	return cursor.Node(api.None, "")
}

func (r *reader) postType() api.Node {
	n := r.primType()
	for r.Take("[") {
		r.Want("]")
		n = cursor.Node(api.TypeArray, "", n)
	}
	return n
}

func (r *reader) primType() api.Node {
	switch {
	case r.StandsId(), r.StandsWord("null"), r.StandsWord("undefined"):
		return cursor.Node(api.TypeName, r.Pass())
	case r.Take("{"):
		return r.objectType()
	case r.Stands("(") && r.beforeArrow():
		return r.funcType()
	case r.Take("("):
		n := r.aType()
		r.Want(")")
		return n
	}
	panic(r.Wrong())
}

// objectType reads what stands behind the { of a TypeObject.
func (r *reader) objectType() api.Node {
	var l []api.Node
	known := cursor.Names{}
	for !r.Take("}") {
		r.Add(known)
		l = append(l, cursor.Node(api.TypeProp, r.Prop(), r.typing()))
		r.Want(";")
	}
	return cursor.Node(api.TypeObject, "", l...)
}

func (r *reader) funcType() api.Node {
	params := r.Params(r.typing)
	r.Want("=>")
	return cursor.Node(api.TypeFunc, "", params, r.aType())
}

package parse

import "gusset/api"

func (r *reader) aType() api.Node {
	r.begin()
	var l []api.Node
	for more := true; more; more = r.take("|") {
		n := r.postType()
		if n.Kind == api.TypeUnion {
			l = append(l, n.Kids...)
		} else {
			l = append(l, n)
		}
	}
	r.end()
	if len(l) == 1 {
		return l[0]
	}
	return node(api.TypeUnion, "", l...)
}

// typeOrNone reads a : and a Type, or nothing, which is a None.
func (r *reader) typeOrNone() api.Node {
	if r.take(":") {
		return r.aType()
	}
	return node(api.None, "")
}

func (r *reader) postType() api.Node {
	n := r.primType()
	for r.take("[") {
		r.want("]")
		n = node(api.TypeArray, "", n)
	}
	return n
}

func (r *reader) primType() api.Node {
	switch {
	case r.standsId(), r.standsWord("null"), r.standsWord("undefined"):
		return node(api.TypeName, r.pass())
	case r.take("{"):
		return r.objectType()
	case r.stands("(") && r.beforeArrow():
		return r.funcType()
	case r.take("("):
		n := r.aType()
		r.want(")")
		return n
	}
	panic(r.wrong())
}

// objectType reads what stands behind the { of a TypeObject.
func (r *reader) objectType() api.Node {
	var l []api.Node
	known := names{}
	for !r.take("}") {
		r.add(known)
		name := r.prop()
		r.want(":")
		l = append(l, node(api.TypeProp, name, r.aType()))
		r.want(";")
	}
	return node(api.TypeObject, "", l...)
}

func (r *reader) funcType() api.Node {
	params := r.params(true)
	r.want("=>")
	return node(api.TypeFunc, "", params, r.aType())
}

package flow

import "gusset/api"

// A way is how a fact says what it says: its kind, and whether it says that it is so.
type way int

// Behind each way stands its opposite, that of Not.
const (
	noWay way = iota
	typeofIs
	typeofIsNot
	isIt
	isNotIt
	isTrue
	isNotTrue
)

// wayOf is the way of a fact; noWay, if its kind is none.
func wayOf(f api.Fact) way {
	var w way
	switch f.Kind {
	case api.FactTypeof:
		w = typeofIs
	case api.FactIs:
		w = isIt
	case api.FactTrue:
		w = isTrue
	default:
		return noWay
	}
	if f.Not {
		w++
	}
	return w
}

// allows tells whether a type of that kind may be so in that way; text is that of the fact.
func (w way) allows(kind int, text string) bool {
	switch w {
	case typeofIs:
		return typeofKind(kind) == text
	case typeofIsNot:
		return typeofKind(kind) != text
	case isIt:
		return kind == kindNamed(text)
	case isNotIt:
		return kind != kindNamed(text)
	case isTrue:
		return kind != api.TypeNull && kind != api.TypeUndef
	case isNotTrue:
		return !isAlwaysTrue(kind)
	}
	return false
}

// toldOfAny are the kinds one of which any may be told to be. Null is none of typeof: it is an object there, as much else is.
func (w way) toldOfAny() []int {
	switch w {
	case typeofIs:
		return []int{api.TypeNumber, api.TypeString, api.TypeBoolean, api.TypeUndef}
	case isIt:
		return []int{api.TypeNull, api.TypeUndef}
	}
	return nil
}

// typeofKind is what typeof tells of a type of that kind.
func typeofKind(kind int) string {
	switch kind {
	case api.TypeNumber:
		return "number"
	case api.TypeString:
		return "string"
	case api.TypeBoolean:
		return "boolean"
	case api.TypeUndef:
		return "undefined"
	case api.TypeFn, api.TypeClass:
		return "function"
	}
	return "object"
}

// kindNamed is the kind that a fact of FactIs names; 0, that of no type, if it names none.
func kindNamed(text string) int {
	switch text {
	case "null":
		return api.TypeNull
	case "undefined":
		return api.TypeUndef
	}
	return 0
}

func isAlwaysTrue(kind int) bool {
	switch kind {
	case api.TypeList, api.TypeRecord, api.TypeFn, api.TypeInst, api.TypeClass, api.TypeSpace:
		return true
	}
	return false
}

package tree

import "gusset/api"

// A rule says what a tree of one kind has, as far as that hangs on no two of its parts together.
type rule struct {
	text text
	most int    // N is from 0 to this
	kids []part // the kids that must stand, in order
	rest part   // those that may stand behind them, as many as there are
}

// A text is a sort of texts.
type text int

const (
	noText text = iota
	anId
	aProp
	aMemberName // of a Field or Method
	aPropOrStar
	aTypeName
	aValid
	aUnary
	aBinary
)

// A part says which kinds may stand in a place: one kind, by its own number, or one of these.
type part int

const (
	nothing part = 0          // that of no kind
	anExpr  part = 100 + iota // above the numbers of all kinds
	anExprOrNone
	aTarget // of an Assign
	aType
	aPlainType // no union
	aTypeOrNone
	aStmt
	aBlockOrNone
	anItem
	aScriptItem
	aDeclaration // of an Export
	aDefault
	aMember    // of a Class
	anExported // None; or a Name, which fits asks on its own
)

// stands tells whether a tree of that kind may stand as that part.
func stands(p part, kind int) bool {
	form := formOf(kind)
	switch p {
	case anExpr:
		return form == api.FormExpr
	case anExprOrNone:
		return form == api.FormExpr || kind == api.None
	case aTarget:
		return kind == api.Name || kind == api.Member || kind == api.Index
	case aType:
		return form == api.FormType
	case aPlainType:
		return form == api.FormType && kind != api.TypeUnion
	case aTypeOrNone:
		return form == api.FormType || kind == api.None
	case aStmt:
		return form == api.FormStmt
	case aBlockOrNone:
		return kind == api.Block || kind == api.None
	case anItem:
		return form == api.FormStmt || form == api.FormItem
	case aScriptItem:
		return form == api.FormStmt || kind == api.Class || kind == api.Space
	case aDeclaration:
		return kind == api.Let || kind == api.Function || kind == api.Class || kind == api.Alias
	case aDefault:
		return form == api.FormExpr || kind == api.Function || kind == api.Class
	case aMember:
		return kind == api.Field || kind == api.Ctor || kind == api.Method
	case anExported:
		return kind == api.None
	}
	return int(p) == kind
}

// formOf is the form of the whole trees of a kind.
func formOf(kind int) int {
	switch kind {
	case api.Num, api.Text, api.Bool, api.Null, api.Undef, api.Name, api.This, api.Array, api.Object, api.Func,
		api.Unary, api.Binary, api.Cond, api.Assign, api.Call, api.New, api.Member, api.Index:
		return api.FormExpr
	case api.TypeName, api.TypeArray, api.TypeUnion, api.TypeObject, api.TypeFunc:
		return api.FormType
	case api.Let, api.Function, api.Expr, api.If, api.While, api.Return, api.Throw, api.Block:
		return api.FormStmt
	case api.Class, api.Alias, api.Import, api.Export, api.Default, api.ExportFrom:
		return api.FormItem
	case api.Module:
		return api.FormModule
	case api.Script:
		return api.FormScript
	}
	return api.FormNone
}

// ruleOf is the rule of a kind; false, if it is none.
func ruleOf(kind int) (rule, bool) {
	switch formOf(kind) {
	case api.FormExpr:
		return exprRule(kind), true
	case api.FormType:
		return typeRule(kind), true
	case api.FormStmt:
		return stmtRule(kind), true
	case api.FormItem:
		return itemRule(kind), true
	case api.FormModule:
		return rule{rest: anItem}, true
	case api.FormScript:
		return rule{rest: aScriptItem}, true
	}
	return partRule(kind)
}

func exprRule(kind int) rule {
	switch kind {
	case api.Num:
		return rule{most: api.MaxSafe}
	case api.Text:
		return rule{text: aValid}
	case api.Bool:
		return rule{most: 1}
	case api.Name:
		return rule{text: anId}
	case api.Array:
		return rule{rest: anExpr}
	case api.Object:
		return rule{rest: api.Prop}
	case api.Func:
		return rule{kids: []part{api.Params, aTypeOrNone, api.Block}}
	case api.Unary:
		return rule{text: aUnary, kids: []part{anExpr}}
	case api.Binary:
		return rule{text: aBinary, kids: []part{anExpr, anExpr}}
	case api.Cond:
		return rule{kids: []part{anExpr, anExpr, anExpr}}
	case api.Assign:
		return rule{kids: []part{aTarget, anExpr}}
	case api.Call:
		return rule{kids: []part{anExpr}, rest: anExpr}
	case api.New:
		return rule{text: anId, rest: anExpr}
	case api.Member:
		return rule{text: aProp, kids: []part{anExpr}}
	case api.Index:
		return rule{kids: []part{anExpr, anExpr}}
	}
	return rule{} // Null, Undef, This
}

func typeRule(kind int) rule {
	switch kind {
	case api.TypeArray:
		return rule{kids: []part{aType}}
	case api.TypeUnion:
		return rule{kids: []part{aPlainType, aPlainType}, rest: aPlainType}
	case api.TypeObject:
		return rule{rest: api.TypeProp}
	case api.TypeFunc:
		return rule{kids: []part{api.Params, aType}}
	}
	return rule{text: aTypeName} // TypeName
}

func stmtRule(kind int) rule {
	switch kind {
	case api.Let:
		return rule{text: anId, most: 1, kids: []part{aTypeOrNone, anExpr}}
	case api.Function:
		return rule{text: anId, kids: []part{api.Params, aTypeOrNone, api.Block}}
	case api.If:
		return rule{kids: []part{anExpr, api.Block, aBlockOrNone}}
	case api.While:
		return rule{kids: []part{anExpr, api.Block}}
	case api.Return:
		return rule{kids: []part{anExprOrNone}}
	case api.Block:
		return rule{rest: aStmt}
	}
	return rule{kids: []part{anExpr}} // Expr, Throw
}

func itemRule(kind int) rule {
	switch kind {
	case api.Class:
		return rule{text: anId, rest: aMember}
	case api.Alias:
		return rule{text: anId, kids: []part{aType}}
	case api.Import:
		return rule{text: aValid, most: 1, rest: api.ImportOne}
	case api.Export:
		return rule{kids: []part{aDeclaration}}
	case api.Default:
		return rule{kids: []part{aDefault}}
	}
	return rule{text: aValid, most: 1, kids: []part{api.ExportOne}, rest: api.ExportOne} // ExportFrom
}

// partRule is the rule of a kind that stands within others alone; false, if it is none.
func partRule(kind int) (rule, bool) {
	switch kind {
	case api.None:
		return rule{}, true
	case api.Prop:
		return rule{text: aProp, kids: []part{anExpr}}, true
	case api.Params:
		return rule{rest: api.Param}, true
	case api.Param:
		return rule{text: anId, kids: []part{aTypeOrNone}}, true
	case api.TypeProp:
		return rule{text: aProp, kids: []part{aType}}, true
	case api.Field:
		return rule{text: aMemberName, kids: []part{aTypeOrNone, anExpr}}, true
	case api.Ctor:
		return rule{kids: []part{api.Params, api.Block}}, true
	case api.Method:
		return rule{text: aMemberName, kids: []part{api.Params, aTypeOrNone, api.Block}}, true
	case api.ImportOne:
		return rule{text: aPropOrStar, kids: []part{api.Name}}, true
	case api.ExportOne:
		return rule{text: aPropOrStar, kids: []part{anExported}}, true
	case api.Space:
		return rule{text: anId, rest: api.SpaceOne}, true
	case api.SpaceOne:
		return rule{text: aProp, kids: []part{api.Name}}, true
	}
	return rule{}, false
}

package tree

import (
	"slices"

	"typedholes/api"
	"typedholes/types"
)

const maxNum = 999999999 // the greatest number with MaxDigits digits

// Valid reports whether an expression is valid.
func Valid(e api.Expr) bool {
	return e.Pos >= 0 && hasKids(e) && hasName(e) && hasNum(e) && hasType(e) && hasArms(e) &&
		!slices.ContainsFunc(Children(e), func(child api.Expr) bool { return !Valid(child) })
}

// The functions below report whether a field of an expression is as its Kind
// has it, apart from what is in the children.

// hasKids is the one that refuses unknown kinds.
func hasKids(e api.Expr) bool {
	switch e.Kind {
	case api.ExprVar, api.ExprCon, api.ExprInt, api.ExprHole:
		return len(e.Kids) == 0
	case api.ExprLam, api.ExprCase, api.ExprAnn, api.ExprHeld:
		return len(e.Kids) == 1
	case api.ExprApp, api.ExprLet, api.ExprRec:
		return len(e.Kids) == 2
	}
	return false
}

func hasName(e api.Expr) bool {
	switch e.Kind {
	case api.ExprVar, api.ExprLam, api.ExprLet, api.ExprRec:
		return isLowerName(e.Name)
	case api.ExprCon:
		return isUpperName(e.Name)
	}
	return e.Name == ""
}

func hasNum(e api.Expr) bool {
	if e.Kind == api.ExprInt {
		return 0 <= e.Num && e.Num <= maxNum
	}
	return e.Num == 0
}

func hasType(e api.Expr) bool {
	if e.Kind == api.ExprAnn {
		return types.Valid(e.Type) && isWritten(e.Type)
	}
	return types.Equal(e.Type, api.Type{})
}

func hasArms(e api.Expr) bool {
	if e.Kind == api.ExprCase {
		return len(e.Arms) > 0 && !slices.ContainsFunc(e.Arms, func(arm api.Arm) bool { return !validArm(arm) })
	}
	return len(e.Arms) == 0
}

// validArm leaves the body to Valid, which has it among the children.
func validArm(arm api.Arm) bool {
	return arm.Pos >= 0 && isUpperName(arm.Con) && len(arm.Vars) <= api.MaxFields &&
		!slices.ContainsFunc(arm.Vars, func(name string) bool { return !isLowerName(name) })
}

// isWritten reports whether a type consists of what source texts can contain.
func isWritten(t api.Type) bool {
	return (t.Kind == api.TypeCon || t.Kind == api.TypeName) &&
		!slices.ContainsFunc(t.Args, func(arg api.Type) bool { return !isWritten(arg) })
}

// A lower name is what can stand as a TypeName, and an upper name what can be a
// constructor without arguments, so package types knows both.

func isLowerName(name string) bool {
	return types.Valid(api.Type{Kind: api.TypeName, Name: name})
}

func isUpperName(name string) bool { return types.Valid(types.Con(name)) }

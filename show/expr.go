package show

import (
	"strconv"
	"strings"

	"typedholes/api"
)

func writeExpr(out *strings.Builder, e api.Expr) {
	switch e.Kind {
	case api.ExprVar, api.ExprCon:
		out.WriteString(e.Name)
	case api.ExprInt:
		out.WriteString(strconv.Itoa(e.Num))
	case api.ExprHole:
		out.WriteString("?")
	case api.ExprLam:
		out.WriteString(`\` + e.Name + ". ")
		writeExpr(out, kid(e, 0))
	case api.ExprApp:
		writeApp(out, kid(e, 0), kid(e, 1))
	case api.ExprLet:
		writeLocal(out, "let ", e)
	case api.ExprRec:
		writeLocal(out, "let rec ", e)
	case api.ExprCase:
		writeCase(out, e)
	case api.ExprAnn:
		out.WriteString("(")
		writeExpr(out, kid(e, 0))
		out.WriteString(" : ")
		writeType(out, e.Type)
		out.WriteString(")")
	case api.ExprHeld:
		out.WriteString("{")
		writeExpr(out, kid(e, 0))
		out.WriteString("}")
	}
}

func writeApp(out *strings.Builder, function, argument api.Expr) {
	writePart(out, function, writeExpr, function.Kind != api.ExprApp && !isAtom(function))
	out.WriteString(" ")
	writePart(out, argument, writeExpr, !isAtom(argument))
}

// writeLocal writes an ExprLet or an ExprRec, which begins with these words.
func writeLocal(out *strings.Builder, words string, e api.Expr) {
	out.WriteString(words + e.Name + " = ")
	writeExpr(out, kid(e, 0))
	out.WriteString(" in ")
	writeExpr(out, kid(e, 1))
}

func writeCase(out *strings.Builder, e api.Expr) {
	out.WriteString("case ")
	writeExpr(out, kid(e, 0))
	out.WriteString(" of ")
	for i, arm := range e.Arms {
		if i > 0 {
			out.WriteString(" | ")
		}
		writeArm(out, arm)
	}
	out.WriteString(" end")
}

func writeArm(out *strings.Builder, arm api.Arm) {
	out.WriteString(arm.Con)
	for _, name := range arm.Vars {
		out.WriteString(" " + name)
	}
	out.WriteString(". ")
	writeExpr(out, arm.Body)
}

// isAtom reports whether the text of an expression needs no parentheses around it,
// wherever it stands.
func isAtom(e api.Expr) bool {
	switch e.Kind {
	case api.ExprVar, api.ExprCon, api.ExprInt, api.ExprHole, api.ExprAnn, api.ExprHeld:
		return true
	}
	return false
}

// kid returns a kid of an expression. One that is not valid can have too few; the
// zero expression then stands for those that are missing.
func kid(e api.Expr, i int) api.Expr {
	if i >= len(e.Kids) {
		return api.Expr{}
	}
	return e.Kids[i]
}

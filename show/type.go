package show

import (
	"strings"

	"typedholes/api"
	"typedholes/types"
)

// The functions of this package append to one text: to join the texts of parts
// would copy those of deep parts once for each level.

func writeType(out *strings.Builder, t api.Type) {
	switch t.Kind {
	case api.TypeVar:
		out.WriteString("_" + Letter(t.Id))
	case api.TypeBound:
		out.WriteString(Letter(t.Id))
	case api.TypeRigid:
		out.WriteString("'" + Letter(t.Id))
	case api.TypeName:
		out.WriteString(t.Name)
	case api.TypeCon:
		writeTypeCon(out, t)
	}
}

func writeTypeCon(out *strings.Builder, t api.Type) {
	from, to, isArrow := types.IsArrow(t)
	if !isArrow {
		writeApplied(out, t.Name, t.Args)
		return
	}
	_, _, inParentheses := types.IsArrow(from)
	writePart(out, from, writeType, inParentheses)
	out.WriteString(" -> ")
	writeType(out, to)
}

// writeApplied writes a constructor with the types behind it: a TypeCon with its
// arguments, or a constructor of a declaration with its fields.
func writeApplied(out *strings.Builder, name string, args []api.Type) {
	out.WriteString(name)
	for _, arg := range args {
		out.WriteString(" ")
		writePart(out, arg, writeType, arg.Kind == api.TypeCon && len(arg.Args) > 0)
	}
}

// writePart writes a part of a type or of an expression, in parentheses or not.
func writePart[T any](out *strings.Builder, part T, write func(*strings.Builder, T), inParentheses bool) {
	if !inParentheses {
		write(out, part)
		return
	}
	out.WriteString("(")
	write(out, part)
	out.WriteString(")")
}

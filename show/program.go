package show

import (
	"strings"

	"typedholes/api"
)

func writeData(out *strings.Builder, data api.Data) {
	out.WriteString("data " + data.Name)
	for _, name := range data.Params {
		out.WriteString(" " + name)
	}
	out.WriteString(" =")
	for i, constructor := range data.Constructors {
		if i > 0 {
			out.WriteString(" |")
		}
		out.WriteString(" ")
		writeApplied(out, constructor.Name, constructor.Fields)
	}
	out.WriteString(";\n")
}

func writeBind(out *strings.Builder, bind api.Bind) {
	out.WriteString("let ")
	if bind.Rec {
		out.WriteString("rec ")
	}
	out.WriteString(bind.Name)
	if bind.HasSig {
		out.WriteString(" : ")
		writeType(out, bind.Sig)
	}
	out.WriteString(" = ")
	writeExpr(out, bind.Body)
	out.WriteString(";\n")
}

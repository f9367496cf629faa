package readprogram

import (
	"cmp"
	"slices"

	"typedholes/api"
	"typedholes/tree"
	"typedholes/types"
)

// Deep returns the first limit that a program exceeds.
func Deep(p api.Program) api.Fault {
	return cmp.Or(manyDatas(p.Datas), manyBinds(p.Binds), deepDatas(p.Datas), deepBinds(p.Binds))
}

func manyDatas(l []api.Data) api.Fault {
	for i, d := range l {
		if i == api.MaxDatas || len(d.Params) > api.MaxParams || len(d.Constructors) > api.MaxConstructors {
			return api.Fault{Err: api.ErrMany, Pos: d.Pos}
		}
		for _, c := range d.Constructors {
			if len(c.Fields) > api.MaxFields {
				return api.Fault{Err: api.ErrMany, Pos: c.Pos}
			}
		}
	}
	return api.Fault{}
}

func manyBinds(l []api.Bind) api.Fault {
	if len(l) > api.MaxBinds {
		return api.Fault{Err: api.ErrMany, Pos: l[api.MaxBinds].Pos}
	}
	return api.Fault{}
}

func deepDatas(l []api.Data) api.Fault {
	for _, d := range l {
		for _, c := range d.Constructors {
			if slices.ContainsFunc(c.Fields, isDeepType) {
				return api.Fault{Err: api.ErrDepth, Pos: d.Pos}
			}
		}
	}
	return api.Fault{}
}

func deepBinds(l []api.Bind) api.Fault {
	for _, b := range l {
		if b.HasSig && isDeepType(b.Sig) {
			return api.Fault{Err: api.ErrDepth, Pos: b.Pos}
		}
		if fault := exprFault(b.Body, b.Pos); fault.Err != api.OK {
			return fault
		}
	}
	return api.Fault{}
}

// exprFault returns the first limit that an expression exceeds, where its depth
// is an error at pos.
func exprFault(e api.Expr, pos int) api.Fault {
	if tree.Depth(e) > api.MaxDepth || hasDeepType(e) {
		return api.Fault{Err: api.ErrDepth, Pos: pos}
	}
	return manyVars(e)
}

// hasDeepType reports whether an annotation in e has a type that is too deep.
func hasDeepType(e api.Expr) bool {
	return e.Kind == api.ExprAnn && isDeepType(e.Type) || slices.ContainsFunc(tree.Children(e), hasDeepType)
}

func isDeepType(t api.Type) bool { return types.Depth(t) > api.MaxDepth }

// manyVars finds the first arm with too many variables. All arms of an
// expression come before those inside of its children.
func manyVars(e api.Expr) api.Fault {
	for _, arm := range e.Arms {
		if len(arm.Vars) > api.MaxFields {
			return api.Fault{Err: api.ErrMany, Pos: arm.Pos}
		}
	}
	for _, child := range tree.Children(e) {
		if fault := manyVars(child); fault.Err != api.OK {
			return fault
		}
	}
	return api.Fault{}
}

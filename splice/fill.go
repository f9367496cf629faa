package splice

import (
	"typedholes/api"
	"typedholes/readprogram"
	"typedholes/scope"
	"typedholes/show"
	"typedholes/tree"
)

// Fill returns the stripped program in which e has taken the place of the hole h.
func Fill(p api.Program, h int, e api.Expr) (api.Program, api.Errno) {
	if err := refusal(p, h, e); err != api.OK {
		return api.Program{}, err
	}
	index, path, _ := Find(p, h)
	body, _ := tree.Put(p.Binds[index].Body, path, e)
	if isDeep(body, e) {
		return api.Program{}, api.ErrDepth
	}
	p = withBody(p, index, body)
	if len(show.Program(p)) > api.MaxSource {
		return api.Program{}, api.ErrLong
	}
	return tree.StripProgram(p), api.OK
}

// Hold is Fill with the held expression e.
func Hold(p api.Program, h int, e api.Expr) (api.Program, api.Errno) {
	return Fill(p, h, api.Expr{Kind: api.ExprHeld, Kids: []api.Expr{e}})
}

// refusal returns the first reason why e can have no place at the hole h, apart
// from the limits.
func refusal(p api.Program, h int, e api.Expr) api.Errno {
	names, err := Names(p, h)
	if err != api.OK {
		return err
	}
	if !tree.Valid(e) {
		return api.ErrForm
	}
	// No name of e is renamed: what is bound around the hole is meant to bind it.
	return scope.Expr(p.Datas, names, e).Err
}

// isDeep reports whether a body with the part e, or a type in e, is too deep.
func isDeep(body, e api.Expr) bool {
	alone := api.Program{Binds: []api.Bind{{Body: e}}}
	return tree.Depth(body) > api.MaxDepth || readprogram.Deep(alone).Err == api.ErrDepth
}

// withBody returns p with another body of one binding, in a list of its own, since
// the bindings of p belong to the caller.
func withBody(p api.Program, index int, body api.Expr) api.Program {
	binds := make([]api.Bind, len(p.Binds))
	copy(binds, p.Binds)
	binds[index].Body = body
	p.Binds = binds
	return p
}

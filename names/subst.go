package names

import (
	"slices"

	"typedholes/api"
	"typedholes/tree"
)

// Rename returns e with each free variable from replaced by the variable to.
func Rename(e api.Expr, from, to string) api.Expr {
	return Subst(e, from, api.Expr{Kind: api.ExprVar, Name: to})
}

// Subst returns e with each free variable name replaced by an expression, none of
// whose free variables is captured.
func Subst(e api.Expr, name string, by api.Expr) api.Expr {
	s := substitution{name: name, by: by, free: Free(by)}
	return s.apply(e, usesOf(name, e))
}

// substitution puts by, in which the names in free are free, in place of name.
type substitution struct {
	name string
	by   api.Expr
	free []string
}

// uses tells whether a variable is free in an expression, and in which children
// it is the same variable. Renaming others does not change that.
type uses struct {
	any      bool
	children []uses
}

func usesOf(name string, e api.Expr) uses {
	children := tree.Children(e)
	u := uses{any: e.Kind == api.ExprVar && e.Name == name, children: make([]uses, len(children))}
	for i, child := range children {
		if slices.Contains(boundIn(e, i), name) {
			continue
		}
		u.children[i] = usesOf(name, child)
		u.any = u.any || u.children[i].any
	}
	return u
}

// apply has the uses of the name in e, so that what has none stays as it is.
func (s substitution) apply(e api.Expr, u uses) api.Expr {
	if !u.any {
		return e
	}
	if e.Kind == api.ExprVar {
		return s.by
	}
	e = s.avoid(e, u)
	children := tree.Children(e)
	for i, child := range children {
		children[i] = s.apply(child, u.children[i])
	}
	return tree.With(e, children)
}

// avoid renames what e itself binds, where it would capture a variable of by.
func (s substitution) avoid(e api.Expr, u uses) api.Expr {
	if e.Kind == api.ExprCase {
		return s.avoidInArms(e, u)
	}
	children := tree.Children(e)
	captures := false
	for i := range children {
		captures = captures || u.children[i].any && s.isFree(boundIn(e, i))
	}
	if !captures {
		return e
	}
	name := s.fresh(allNames(nil, e))
	for i, child := range children {
		if len(boundIn(e, i)) > 0 {
			children[i] = Rename(child, e.Name, name)
		}
	}
	e = tree.With(e, children)
	e.Name = name
	return e
}

func (s substitution) avoidInArms(e api.Expr, u uses) api.Expr {
	arms := slices.Clone(e.Arms)
	for i, arm := range arms {
		if u.children[len(e.Kids)+i].any && s.isFree(arm.Vars) {
			arms[i] = s.avoidInArm(arm)
		}
	}
	e.Arms = arms
	return e
}

func (s substitution) avoidInArm(arm api.Arm) api.Arm {
	arm.Vars = slices.Clone(arm.Vars)
	for i, old := range arm.Vars {
		if slices.Contains(s.free, old) {
			name := s.fresh(slices.Concat(arm.Vars, allNames(nil, arm.Body)))
			arm.Body = Rename(arm.Body, old, name)
			arm.Vars[i] = name
		}
	}
	return arm
}

// isFree reports whether one of the names is free in by.
func (s substitution) isFree(names []string) bool {
	return slices.ContainsFunc(names, func(name string) bool { return slices.Contains(s.free, name) })
}

// fresh returns a new name for a binding occurrence, where these names occur.
func (s substitution) fresh(names []string) string {
	return Fresh(0, slices.Concat(names, s.free, []string{s.name}))
}

// allNames appends the names in e to others. Those of types are none of them:
// they are no variables.
func allNames(others []string, e api.Expr) []string {
	others = append(others, e.Name)
	for _, arm := range e.Arms {
		others = append(others, arm.Vars...)
	}
	for _, child := range tree.Children(e) {
		others = allNames(others, child)
	}
	return others
}

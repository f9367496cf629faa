package tree

import (
	"slices"

	"typedholes/api"
)

// At returns the part of e at a path, and whether there is one.
func At(e api.Expr, path []int) (api.Expr, bool) {
	for _, i := range path {
		children := Children(e)
		if i < 0 || i >= len(children) {
			return api.Expr{}, false
		}
		e = children[i]
	}
	return e, true
}

// Put returns e with the part at a path replaced, and whether there is one.
func Put(e api.Expr, path []int, part api.Expr) (api.Expr, bool) {
	if len(path) == 0 {
		return part, true
	}
	children, i := Children(e), path[0]
	if i < 0 || i >= len(children) {
		return e, false
	}
	child, found := Put(children[i], path[1:], part)
	if !found {
		return e, false
	}
	children[i] = child
	return With(e, children), true
}

// Holes returns the paths of all holes, in preorder.
func Holes(e api.Expr) [][]int { return holesBelow(nil, nil, e) }

// holesBelow appends the paths of the holes in the part e at a path to found.
func holesBelow(found [][]int, path []int, e api.Expr) [][]int {
	if e.Kind == api.ExprHole {
		// The parts that come later write their own indices over this path.
		found = append(found, slices.Clone(path))
	}
	for i, child := range Children(e) {
		found = holesBelow(found, append(path, i), child)
	}
	return found
}

package lattice

import (
	"slices"

	"typedholes/api"
	"typedholes/types"
)

// pair consists of the parts of two types at a place where these differ.
type pair struct{ left, right api.Type }

// samePair reports whether two pairs consist of equal parts.
func samePair(p, q pair) bool {
	return types.Equal(p.left, q.left) && types.Equal(p.right, q.right)
}

// Common returns the most special type of which a and b are instances, with the
// substitutions that make a and b of it.
func Common(a, b api.Type) (api.Type, []api.Assign, []api.Assign) {
	t, seen := generalize(a, b, nil)
	var left, right []api.Assign
	for id, p := range seen {
		left = append(left, api.Assign{Id: id, Type: p.left})
		right = append(right, api.Assign{Id: id, Type: p.right})
	}
	return t, left, right
}

// generalize returns what Common does for two parts, and the pairs that were seen
// with those of these parts added. The index of a pair is its type variable.
func generalize(a, b api.Type, seen []pair) (api.Type, []pair) {
	if a.Kind == api.TypeVar || !sameNode(a, b) {
		return generalizePair(pair{a, b}, seen)
	}
	if len(a.Args) == 0 {
		return a, seen
	}
	args := make([]api.Type, len(a.Args))
	for i, arg := range a.Args {
		args[i], seen = generalize(arg, b.Args[i], seen)
	}
	a.Args = args
	return a, seen
}

// generalizePair returns the type variable for a pair, and the pairs that were seen
// with this one.
func generalizePair(p pair, seen []pair) (api.Type, []pair) {
	id := slices.IndexFunc(seen, func(q pair) bool { return samePair(p, q) })
	if id < 0 {
		return types.Var(len(seen)), append(seen, p)
	}
	return types.Var(id), seen
}

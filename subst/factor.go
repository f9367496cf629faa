package subst

import (
	"typedholes/api"
	"typedholes/types"
)

// Factor returns the substitution that, applied after a, gives the variables ids
// the types that b gives them, and whether there is one.
func Factor(a, b []api.Assign, ids []int) ([]api.Assign, bool) {
	var factor []api.Assign
	for _, id := range ids {
		v := types.Var(id)
		extended, found := extend(factor, Apply(a, v), Apply(b, v))
		if !found {
			return nil, false
		}
		factor = extended
	}
	return factor, true
}

// extend returns s with the assignments added that turn from into to, and whether
// there are such. A variable that stays is assigned, too, since a later
// occurrence must not become anything else.
func extend(s []api.Assign, from, to api.Type) ([]api.Assign, bool) {
	if from.Kind == api.TypeVar {
		if given, assigned := find(s, from.Id); assigned {
			return s, types.Equal(given, to)
		}
		return append(s, api.Assign{Id: from.Id, Type: to}), true
	}
	if !sameNode(from, to) {
		return nil, false
	}
	for i, arg := range from.Args {
		extended, found := extend(s, arg, to.Args[i])
		if !found {
			return nil, false
		}
		s = extended
	}
	return s, true
}

// sameNode reports whether two types are equal apart from their arguments.
func sameNode(a, b api.Type) bool {
	return a.Kind == b.Kind && a.Name == b.Name && a.Id == b.Id && a.Home == b.Home && len(a.Args) == len(b.Args)
}

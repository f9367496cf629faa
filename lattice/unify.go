package lattice

import (
	"typedholes/api"
)

// Unify returns a most general unifier of a and b, or the error of the first pair of
// parts that cannot be made equal.
func Unify(a, b api.Type) ([]api.Assign, api.Errno) {
	g := graph{vars: map[int]int{}}
	if err := g.unify(g.add(a), g.add(b)); err != api.OK {
		return nil, err
	}
	return g.solution(), api.OK
}

// unify makes two parts equal.
func (g *graph) unify(x, y int) api.Errno {
	x, y = g.find(x), g.find(y)
	switch {
	case x == y:
		return api.OK
	case g.isVar(x):
		return g.bind(x, y)
	case g.isVar(y):
		return g.bind(y, x)
	case !sameNode(g.parts[x].typ, g.parts[y].typ):
		return api.ErrMismatch
	}
	for i, arg := range g.parts[x].args {
		if err := g.unify(arg, g.parts[y].args[i]); err != api.OK {
			return err
		}
	}
	// Joined any earlier, the arguments of x would be hidden behind those of y, and a
	// type variable that occurs in them alone would not be found.
	g.parts[x].equal = y
	return api.OK
}

// bind lets the type variable v stand for another part.
func (g *graph) bind(v, other int) api.Errno {
	if g.contains(other, v) {
		return api.ErrOccurs
	}
	g.parts[v].equal = other
	g.bound = append(g.bound, v)
	return api.OK
}

// solution returns the substitution that has been found.
func (g *graph) solution() []api.Assign {
	var s []api.Assign
	for _, v := range g.bound {
		s = append(s, api.Assign{Id: g.parts[v].typ.Id, Type: g.write(v)})
	}
	return s
}

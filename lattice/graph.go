package lattice

import (
	"typedholes/api"
	"typedholes/types"
)

// graph has the parts of types, which are named by their indices. A type variable is
// one part wherever it occurs, and parts that have been made equal are treated as
// one: if what they stand for were written out at each place, it could double with
// each type variable.
type graph struct {
	parts    []part
	vars     map[int]int // the parts of the type variables, by their Ids
	bound    []int       // the type variables that stand for other parts
	searches int
}

// part is a part of a type.
type part struct {
	typ     api.Type
	args    []int
	equal   int  // the part that this one has been made equal to, or itself
	search  int  // the last search that came here
	written bool // whether typ has become the type that the part stands for
}

// add returns the part for a type, with parts for its arguments.
func (g *graph) add(t api.Type) int {
	if t.Kind == api.TypeVar {
		return g.addVar(t.Id)
	}
	var args []int
	for _, arg := range t.Args {
		args = append(args, g.add(arg))
	}
	return g.addPart(t, args)
}

func (g *graph) addVar(id int) int {
	i, known := g.vars[id]
	if !known {
		i = g.addPart(types.Var(id), nil)
		g.vars[id] = i
	}
	return i
}

func (g *graph) addPart(t api.Type, args []int) int {
	i := len(g.parts)
	g.parts = append(g.parts, part{typ: t, args: args, equal: i})
	return i
}

func (g *graph) isVar(i int) bool { return g.parts[i].typ.Kind == api.TypeVar }

// find returns the part that stands for all those that have been made equal to i.
func (g *graph) find(i int) int {
	for g.parts[i].equal != i {
		// Each step makes the way of later ones shorter.
		g.parts[i].equal = g.parts[g.parts[i].equal].equal
		i = g.parts[i].equal
	}
	return i
}

// contains reports whether the type variable v, which stands for itself, occurs in a
// part.
func (g *graph) contains(i, v int) bool {
	g.searches++
	return g.search(i, v)
}

// search looks for v in what the search has not come to yet.
func (g *graph) search(i, v int) bool {
	i = g.find(i)
	if i == v {
		return true
	}
	p := &g.parts[i]
	if p.search == g.searches {
		return false
	}
	p.search = g.searches
	for _, arg := range p.args {
		if g.search(arg, v) {
			return true
		}
	}
	return false
}

// write returns the type that a part stands for. Parts that have been made equal
// share its memory.
func (g *graph) write(i int) api.Type {
	p := &g.parts[g.find(i)]
	if !p.written {
		var args []api.Type
		for _, arg := range p.args {
			args = append(args, g.write(arg))
		}
		p.typ.Args, p.written = args, true
	}
	return p.typ
}

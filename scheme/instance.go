package scheme

import (
	"typedholes/api"
	"typedholes/types"
)

// Instance returns the types with which Open of c returns t, and whether there
// are such.
func Instance(c api.Scheme, t api.Type) ([]api.Type, bool) {
	found := map[int]api.Type{}
	// A list of Count types is made only if as many have been found, since the
	// Count of a scheme that is not valid may be far too large for one.
	if !match(c.Type, t, found) || len(found) != c.Count {
		return nil, false
	}
	args := make([]api.Type, c.Count)
	for id := range args {
		args[id] = found[id]
	}
	return args, true
}

// General reports whether a is at least as general as b.
func General(a, b api.Scheme) bool {
	// The type of b is an instance of b, by its own quantified variables. If it is
	// an instance of a, they can only come from the types that a is opened with;
	// so replacing them there gives all other instances of b.
	_, is := Instance(a, b.Type)
	return is
}

// match reports whether from becomes to if its quantified variables are replaced.
// It adds what replaces them to found, and keeps to what is there already.
func match(from, to api.Type, found map[int]api.Type) bool {
	if from.Kind == api.TypeBound {
		return replace(from.Id, to, found)
	}
	if !sameNode(from, to) {
		return false
	}
	for i, arg := range from.Args {
		if !match(arg, to.Args[i], found) {
			return false
		}
	}
	return true
}

// replace notes that t replaces a quantified variable, and reports whether nothing
// else does.
func replace(id int, t api.Type, found map[int]api.Type) bool {
	if earlier, known := found[id]; known {
		return types.Equal(earlier, t)
	}
	found[id] = t
	return true
}

// sameNode reports whether two types are equal apart from their arguments.
func sameNode(a, b api.Type) bool {
	if len(a.Args) != len(b.Args) {
		return false
	}
	a.Args, b.Args = nil, nil
	return types.Equal(a, b)
}

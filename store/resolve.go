package store

import (
	"slices"

	"typedholes/api"
)

// mostResolved is the number of nodes up to which resolved forms are written out.
const mostResolved = 20 * api.MaxType

// Walk follows bound variables, and returns what the last one stands for.
func Walk(s api.Store, t api.Type) api.Type {
	// A way that is longer than this goes in a circle, and the store is not valid.
	for range s.Slots {
		next, bound := standsFor(s, t)
		if !bound {
			return t
		}
		t = next
	}
	return t
}

// Resolve returns the resolved form of t, and whether it is small enough for that.
func Resolve(s api.Store, t api.Type) (api.Type, bool) {
	if Size(s, t, mostResolved) > mostResolved {
		return api.Type{}, false
	}
	return resolved(s, t), true
}

func resolved(s api.Store, t api.Type) api.Type {
	t = Walk(s, t)
	if len(t.Args) == 0 {
		return t
	}
	args := make([]api.Type, len(t.Args))
	for i, arg := range t.Args {
		args[i] = resolved(s, arg)
	}
	t.Args = args
	return t
}

// Vars returns the type variables of the resolved forms that are not bound, each
// once, in the order in which they occur first.
func Vars(s api.Store, l ...api.Type) []int {
	var ids []int
	// Bound variables are followed once, too: a resolved form can be too large to be
	// visited as a whole.
	seen := map[int]bool{}
	left := push(nil, l)
	for len(left) > 0 {
		t := left[len(left)-1]
		left = left[:len(left)-1]
		if t.Kind != api.TypeVar {
			left = push(left, t.Args)
			continue
		}
		if seen[t.Id] {
			continue
		}
		seen[t.Id] = true
		if next, bound := standsFor(s, t); bound {
			left = append(left, next)
		} else {
			ids = append(ids, t.Id)
		}
	}
	return ids
}

// push puts types on a stack, the first one on top.
func push(stack, l []api.Type) []api.Type {
	for _, t := range slices.Backward(l) {
		stack = append(stack, t)
	}
	return stack
}

// standsFor returns what t stands for if it is a bound variable, and whether it is
// one.
func standsFor(s api.Store, t api.Type) (api.Type, bool) {
	if t.Kind != api.TypeVar || !hasSlot(s, t.Id) || !s.Slots[t.Id].Bound {
		return api.Type{}, false
	}
	return s.Slots[t.Id].Type, true
}

package unify

import (
	"slices"

	"typedholes/api"
	"typedholes/store"
	"typedholes/types"
)

// isOpen reports whether t is a type variable that can be bound.
func isOpen(s api.Store, t api.Type) bool {
	return t.Kind == api.TypeVar && hasSlot(s, t.Id) && !s.Slots[t.Id].Bound
}

func hasSlot(s api.Store, id int) bool { return id >= 0 && id < len(s.Slots) }

// join binds the type variable newer to older, which takes over what restricts newer.
func join(s api.Store, older, newer int) api.Store {
	a, b := s.Slots[older], s.Slots[newer]
	joint := api.Slot{Home: min(a.Home, b.Home), Base: a.Base || b.Base}
	s = give(s, newer, types.Var(older))
	// The trail has entries for changes alone.
	if joint.Home != a.Home || joint.Base != a.Base {
		s, _ = store.Set(s, older, joint)
	}
	return s
}

// bind binds the type variable id to t, which is no type variable that can be bound
// itself, or returns the error that forbids it.
func bind(s api.Store, id int, t api.Type) (api.Store, api.Errno) {
	slot := s.Slots[id]
	vars := store.Vars(s, t)
	switch {
	case slices.Contains(vars, id):
		return s, api.ErrOccurs
	case slot.Base && isFunction(t):
		return s, api.ErrBase
	case escapes(s, t, slot.Home):
		return s, api.ErrEscape
	}
	for _, other := range vars {
		s = lower(s, other, slot.Home)
	}
	return give(s, id, t), api.OK
}

func isFunction(t api.Type) bool {
	_, _, is := types.IsArrow(t)
	return is
}

// escapes reports whether the resolved form of t contains a rigid constant with a
// greater home.
func escapes(s api.Store, t api.Type, home int) bool {
	t = store.Walk(s, t)
	if isRigid(s, t) && t.Home > home {
		return true
	}
	return slices.ContainsFunc(t.Args, func(arg api.Type) bool { return escapes(s, arg, home) })
}

// isRigid reports whether t is a rigid constant. A type variable without a slot is
// like one with the home 0, and 0 is what it has as its Home.
func isRigid(s api.Store, t api.Type) bool {
	return t.Kind == api.TypeRigid || t.Kind == api.TypeVar && !hasSlot(s, t.Id)
}

// lower makes sure that the home of a type variable is not greater than home.
func lower(s api.Store, id, home int) api.Store {
	if !hasSlot(s, id) || s.Slots[id].Home <= home {
		return s
	}
	slot := s.Slots[id]
	slot.Home = home
	s, _ = store.Set(s, id, slot)
	return s
}

// give lets a type variable stand for t. Its home and base stay what they were.
func give(s api.Store, id int, t api.Type) api.Store {
	slot := s.Slots[id]
	slot.Bound, slot.Type = true, t
	s, _ = store.Set(s, id, slot)
	return s
}

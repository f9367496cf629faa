package store

import (
	"typedholes/api"
	"typedholes/types"
)

// Valid reports whether s is valid.
func Valid(s api.Store) bool {
	for _, slot := range s.Slots {
		if !validSlot(s, slot) {
			return false
		}
	}
	for _, change := range s.Trail {
		if !hasSlot(s, change.Id) {
			return false
		}
	}
	return !circular(s)
}

func validSlot(s api.Store, slot api.Slot) bool {
	if !slot.Bound {
		return types.Equal(slot.Type, api.Type{})
	}
	if !types.Valid(slot.Type) {
		return false
	}
	for _, id := range types.Vars(slot.Type) {
		if !hasSlot(s, id) {
			return false
		}
	}
	return true
}

// circular reports whether a type variable stands for a type that contains itself, in
// a store in which all slots are valid. It takes away type variables that stand for
// types without other ones until none is left, or each one needs another one.
func circular(s api.Store) bool {
	needs := make([]int, len(s.Slots))   // how many others a type variable stands for
	users := make([][]int, len(s.Slots)) // those that stand for it
	ready := make([]int, 0, len(s.Slots))
	for id, slot := range s.Slots {
		others := types.Vars(slot.Type)
		for _, other := range others {
			users[other] = append(users[other], id)
		}
		needs[id] = len(others)
		if needs[id] == 0 {
			ready = append(ready, id)
		}
	}
	taken := 0
	for taken < len(ready) {
		for _, user := range users[ready[taken]] {
			needs[user]--
			if needs[user] == 0 {
				ready = append(ready, user)
			}
		}
		taken++
	}
	return taken < len(s.Slots)
}

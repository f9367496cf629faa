package unify

import (
	"strconv"
	"strings"
	"testing"

	"typedholes/api"
	"typedholes/lattice"
	"typedholes/store"
	"typedholes/subst"
	"typedholes/types"
)

// formOf returns the words of a resolved form.
func formOf(t *testing.T, s api.Store, words string) string {
	t.Helper()
	x, is := store.Resolve(s, typeOf(words))
	if !is {
		t.Fatalf("%s has no resolved form in %s", words, writeStore(s))
	}
	return write(x)
}

// check compares Unify with the model, for both orders of the types, and what it
// returns with the laws. It returns this.
func check(t *testing.T, s api.Store, a, b string) (api.Store, api.Errno) {
	t.Helper()
	slots, before := writeSlots(s), writeStore(s)
	m := modelOf(slots)
	wantErr := m.unify(a, b)
	want := before
	if wantErr == api.OK {
		trail := writeTrail(s)
		if trail != "" && len(m.changes) > 0 {
			trail += ", "
		}
		want = m.String() + " | " + trail + strings.Join(m.changes, ", ")
	}
	u, err := Unify(s, typeOf(a), typeOf(b))
	if err != wantErr || writeStore(u) != want {
		t.Fatalf("Unify(%s, %s, %s) = %s, %d; want %s, %d", before, a, b, writeStore(u), err, want, wantErr)
	}
	if v, turned := Unify(s, typeOf(b), typeOf(a)); turned != err || writeStore(v) != want {
		t.Fatalf("Unify(%s, %s, %s) = %s, %d; the other way round %s, %d", before, a, b, writeStore(u), err, writeStore(v), turned)
	}
	if writeStore(s) != before {
		t.Fatalf("the store %s has become %s", before, writeStore(s))
	}
	if err == api.OK {
		checkMade(t, s, u, a, b)
		checkHomes(t, s, u)
	}
	checkLattice(t, s, u, a, b, err)
	return u, err
}

// haveSlots reports whether all type variables of words have slots. A type variable that
// is bound to a type without that leaves a store that is not valid.
func haveSlots(s api.Store, words string) bool {
	for _, id := range varsOf(words) {
		if id >= len(s.Slots) {
			return false
		}
	}
	return true
}

// checkMade checks that a store that Unify has made is valid, makes the types equal,
// stays as it is when they are unified again, and can be rolled back.
func checkMade(t *testing.T, s, u api.Store, a, b string) {
	t.Helper()
	form := formOf(t, u, a)
	if formOf(t, u, b) != form {
		t.Fatalf("Unify(%s, %s, %s) = %s: %s and %s", writeStore(s), a, b, writeStore(u), form, formOf(t, u, b))
	}
	if store.Valid(s) && haveSlots(s, a) && haveSlots(s, b) && !store.Valid(u) {
		t.Fatalf("Unify(%s, %s, %s) = %s is not valid", writeStore(s), a, b, writeStore(u))
	}
	large := len(strings.Fields(form)) > api.MaxType
	if got := Same(u, typeOf(a), typeOf(b)); got == large {
		t.Fatalf("Same(%s, %s, %s) is %v", writeStore(u), a, b, got)
	}
	again, err := Unify(u, typeOf(a), typeOf(b))
	if writeStore(again) != writeStore(u) || err != api.OK && (err != api.ErrLarge || !large) {
		t.Fatalf("Unify(%s, %s, %s) again = %s, %d", writeStore(u), a, b, writeStore(again), err)
	}
	back, is := store.Rollback(u, store.Mark(s))
	if !is || writeStore(back) != writeStore(s) {
		t.Fatalf("Rollback(%s) = %s, %v; want %s", writeStore(u), writeStore(back), is, writeStore(s))
	}
}

// checkHomes checks homes and bases by what type variables have come to stand for: one
// that is left has the smallest home of those that stand for a type with it, and a base
// if one of those that stand for it has.
func checkHomes(t *testing.T, s, u api.Store) {
	t.Helper()
	wantHome, wantBase := map[int]int{}, map[int]bool{}
	for id, slot := range s.Slots {
		now := u.Slots[id]
		if now.Home > slot.Home || slot.Base && !now.Base || slot.Bound && writeSlot(now) != writeSlot(slot) {
			t.Fatalf("the slot %s has become %s", writeSlot(slot), writeSlot(now))
		}
		if slot.Bound {
			continue
		}
		form := formOf(t, u, strconv.Itoa(id))
		if slot.Base && strings.HasPrefix(form, "-> ") {
			t.Fatalf("%d has a base, but has become %s", id, form)
		}
		for word := range strings.FieldsSeq(form) {
			if (&model{}).away(word, slot.Home) && (!isVar(word) || number(word) >= len(s.Slots)) {
				t.Fatalf("%d with the home %d has become %s", id, slot.Home, form)
			}
		}
		for _, v := range varsOf(form) {
			home, has := wantHome[v]
			if !has || slot.Home < home {
				wantHome[v] = slot.Home
			}
			wantBase[v] = wantBase[v] || slot.Base && form == strconv.Itoa(v)
		}
	}
	for id, slot := range u.Slots {
		if !slot.Bound && (slot.Home != wantHome[id] || slot.Base != wantBase[id]) {
			t.Fatalf("of %s, Unify has made %s; want %d, %v for %d", writeSlots(s), writeSlots(u), wantHome[id], wantBase[id], id)
		}
	}
}

// checkLattice compares Unify with lattice.Unify of the resolved forms, if nothing is
// there that lattice.Unify knows nothing of.
func checkLattice(t *testing.T, s, u api.Store, a, b string, err api.Errno) {
	t.Helper()
	x, y := formOf(t, s, a), formOf(t, s, b)
	for _, id := range varsOf(x + " " + y) {
		if id >= len(s.Slots) || s.Slots[id].Base {
			return
		}
	}
	if err == api.ErrLarge || strings.Contains(x+y, "r") {
		return
	}
	solution, latticeErr := lattice.Unify(typeOf(x), typeOf(y))
	if (err == api.OK) != (latticeErr == api.OK) {
		t.Fatalf("Unify(%s, %s, %s) = %d, but lattice.Unify(%s, %s) = %d", writeSlots(s), a, b, err, x, y, latticeErr)
	}
	if err != api.OK {
		return
	}
	// Most general unifiers differ only in the names of variables.
	var ours, theirs []string
	for id := range s.Slots {
		before, _ := store.Resolve(s, types.Var(id))
		ours = append(ours, formOf(t, u, strconv.Itoa(id)))
		theirs = append(theirs, write(subst.Apply(solution, before)))
	}
	if left, right := renamed(strings.Join(ours, " ")), renamed(strings.Join(theirs, " ")); left != right {
		t.Fatalf("Unify(%s, %s, %s) makes %s; lattice.Unify makes %s", writeSlots(s), a, b, left, right)
	}
}

// P17.1, P17.3: all pairs of samples in all sample stores, also as parts of larger
// types.
func TestAll(t *testing.T) {
	count := map[api.Errno]int{}
	l := sampleTypes()
	for n, slots := range sampleStores() {
		s := storeOf(slots)
		if !store.Valid(s) {
			t.Fatalf("%s is not valid", slots)
		}
		for i, a := range l {
			for k := i; k < len(l); k++ {
				b := l[k]
				u, err := check(t, s, a, b)
				count[err]++
				c, d := l[(i*5+k*3+n)%len(l)], l[(i*7+k*11+2*n)%len(l)]
				_, err = check(t, u, "Q 1 "+c+" "+a, "Q "+b+" "+d+" 0")
				count[err]++
			}
		}
	}
	if count[api.OK] < 1500 || count[api.ErrMismatch] < 5000 || count[api.ErrOccurs] < 1000 || count[api.ErrEscape] < 200 || count[api.ErrBase] < 100 {
		t.Errorf("only %v", count)
	}
}

// randomType returns the words of a type with variables up to an Id. If plain is true,
// it has nothing but them and constructors.
func randomType(c *chance, depth, vars int, plain bool) string {
	part := func() string { return randomType(c, depth-1, vars, plain) }
	if depth == 0 || c.below(3) == 0 {
		switch k := c.below(12); {
		case k < 7:
			return strconv.Itoa(c.below(vars))
		case k < 9 || plain:
			return []string{"Int", "T"}[c.below(2)]
		case k == 9:
			return []string{"b0", "b1", "a", "1000"}[c.below(4)]
		}
		return "r" + strconv.Itoa(c.below(6)-1) + ".0"
	}
	switch c.below(10) {
	case 0, 1:
		return "L " + part()
	case 2, 3:
		return "-> " + part() + " " + part()
	case 4, 5, 6:
		return "P " + part() + " " + part()
	case 7:
		return "Q " + part() + " " + part() + " " + part()
	}
	return repeated("L", c.below(90), part())
}

// randomStore returns a store with so many slots, some of which are bound to types
// with those behind them.
func randomStore(c *chance, count int, plain bool) api.Store {
	s := store.New()
	for range count {
		s, _ = store.Fresh(s, c.below(6)-1, !plain && c.below(5) == 0)
	}
	for id := range count - 1 {
		if c.below(4) > 0 {
			continue
		}
		words := strings.Fields(randomType(c, 2, count-id-1, plain))
		for i, word := range words {
			if isVar(word) && number(word) < count {
				words[i] = strconv.Itoa(number(word) + id + 1)
			}
		}
		slot := s.Slots[id]
		slot.Bound, slot.Type = true, typeOf(strings.Join(words, " "))
		s, _ = store.Set(s, id, slot)
	}
	return s
}

// P17.1, P17.3: many calls, one after another, in the same store.
func TestRandom(t *testing.T) {
	count := map[api.Errno]int{}
	for seed := range 1000 {
		c := chance(seed)
		plain := seed%2 == 0
		slots := 3 + c.below(12)
		s := randomStore(&c, slots, plain)
		for range 2 * slots {
			var err api.Errno
			a, b := randomType(&c, c.below(4), slots, plain), randomType(&c, c.below(4), slots, plain)
			if store.Size(s, typeOf(a), 2000) > 2000 || store.Size(s, typeOf(b), 2000) > 2000 {
				continue // too much for the model
			}
			s, err = check(t, s, a, b)
			count[err]++
		}
	}
	if count[api.OK] < 3000 || count[api.ErrMismatch] < 3000 || count[api.ErrOccurs] < 500 || count[api.ErrEscape] < 300 || count[api.ErrBase] < 30 || count[api.ErrLarge] < 150 {
		t.Errorf("only %v", count)
	}
}

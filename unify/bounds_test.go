package unify

import (
	"strings"
	"testing"

	"typedholes/api"
	"typedholes/store"
	"typedholes/types"
)

// P0.4: arguments stay as they are, with the capacity of their lists.
func TestArgumentsStay(t *testing.T) {
	l := sampleTypes()
	for n, slots := range sampleStores() {
		made, _ := store.Fresh(storeOf(slots), 3, true)
		made, _ = store.Set(made, 0, made.Slots[0])
		for i, words := range l {
			s, a, b := spare(made), spareType(typeOf("P "+words+" "+l[(i*7+n)%len(l)])), spareType(typeOf("P "+l[(i*11+3*n)%len(l)]+" 0"))
			before := all(s) + allType(a) + allType(b)
			Unify(s, a, b)
			Unify(s, b, a)
			Same(s, a, b)
			if after := all(s) + allType(a) + allType(b); after != before {
				t.Fatalf("the arguments have become\n%swant\n%s", after, before)
			}
		}
	}
}

// P0.4, P17.3: stores that were made of the same store do not change each other.
func TestBranches(t *testing.T) {
	c := chance(7)
	first := spare(randomStore(&c, 20, false))
	stores, texts := []api.Store{first}, []string{all(first)}
	for range 400 {
		s := stores[c.below(len(stores))]
		if c.below(4) == 0 {
			s, _ = store.Rollback(s, c.below(store.Mark(s)-store.Mark(first)+1)+store.Mark(first))
		} else {
			s, _ = Unify(s, typeOf(randomType(&c, 2, 20, false)), typeOf(randomType(&c, 2, 20, false)))
		}
		stores, texts = append(stores, s), append(texts, all(s))
	}
	for i, s := range stores {
		if all(s) != texts[i] {
			t.Fatalf("a store has become\n%swant\n%s", all(s), texts[i])
		}
	}
}

// P17.1: a list of type variables made equal one by one, and then bound.
func TestLong(t *testing.T) {
	const length = 800
	for _, turn := range []bool{false, true} {
		s := store.New()
		for i := range length {
			s, _ = store.Fresh(s, length-i, i == length/2)
		}
		for i := range length - 1 {
			k := i
			if turn {
				k = length - 2 - i
			}
			var err api.Errno
			if s, err = Unify(s, types.Var(k), types.Var(k+1)); err != api.OK {
				t.Fatalf("Unify = %d", err)
			}
		}
		if !Same(s, types.Var(0), types.Var(length-1)) || writeSlot(s.Slots[0]) != "-@1!" {
			t.Errorf("the first slot is %s", writeSlot(s.Slots[0]))
		}
		if _, err := Unify(s, types.Var(length-1), typeOf("-> Int Int")); err != api.ErrBase {
			t.Errorf("Unify with a function type = %d", err)
		}
		s, err := Unify(s, types.Var(length-1), typeOf("L r1.0"))
		if err != api.OK || formOf(t, s, "300") != "L r1.0" {
			t.Errorf("Unify = %d", err)
		}
	}
}

// P0.1: ways from variable to variable that are long, and types that are much deeper
// or larger than those in the slots.
func TestDeep(t *testing.T) {
	const length = 100000
	last := types.Var(length - 1)
	s := chain(length, same)
	s.Slots = append(s.Slots, api.Slot{})
	u, err := Unify(s, pairOf(last), pairOf(types.Var(length)))
	if err != api.OK || !Same(u, last, types.Var(length)) || store.Mark(u) != 1 || u.Trail[0].Id != length {
		t.Errorf("Unify = %d", err)
	}
	if _, err := Unify(s, last, pairOf(types.Var(5))); err != api.ErrOccurs {
		t.Errorf("Unify = %d", err)
	}
	for _, wrap := range []func(api.Type) api.Type{listOf, pairOf} {
		s := chain(length, wrap)
		s.Slots = append(s.Slots, api.Slot{})
		for _, other := range []api.Type{last, types.Int(), types.Var(0), types.Var(length), types.Var(length + 1)} {
			if u, err := Unify(s, last, other); err != api.ErrLarge || store.Mark(u) != 0 {
				t.Errorf("Unify with %s = %d", write(other), err)
			}
		}
	}
}

// doubling returns two types with the pairs of the type variable i and of P with the
// type variable i + 1 twice, for count of them, with the greatest one first if down is
// true.
func doubling(count int, down bool) (api.Type, api.Type) {
	a, b := types.Int(), types.Int()
	for i := range count {
		if !down {
			i = count - 1 - i
		}
		a, b = types.Con("P", types.Var(i), a), types.Con("P", pairOf(types.Var(i+1)), b)
	}
	return a, b
}

// P17.1: types that double with each pair are refused when a pair of them is treated,
// and only then.
func TestDoubling(t *testing.T) {
	for count := range 50 {
		s := api.Store{Slots: make([]api.Slot, count+1)}
		a, b := doubling(count, true)
		want := api.OK
		if count >= 7 {
			want = api.ErrLarge // the last pair has 255 nodes
		}
		if _, err := Unify(s, a, b); err != want {
			t.Errorf("Unify of %d pairs, the greatest one first, = %d; want %d", count, err, want)
		}
		a, b = doubling(count, false)
		u, err := Unify(s, a, b)
		if got := store.Size(u, types.Var(0), 1<<60); err != api.OK || store.Mark(u) != count || got != 2<<count-1 {
			t.Errorf("Unify of %d pairs = %d, with %d nodes", count, err, got)
		}
		if got := Same(u, a, b); got != (count < 6) {
			t.Errorf("Same of %d pairs is %v", count, got)
		}
	}
}

// P0.1, P0.6: the functions terminate and do not panic for stores and types that are
// not valid.
func TestStrange(t *testing.T) {
	parts := []string{"-", "-!", "Int", "0", "1", "2", "L 0", "L 1", "-> 1 2", "P 2 2@3", "Q 0 b0 1", "3"}
	words := []string{"0", "1", "2", "P 2 1", "P 0 L 1", "L 3", "-> 1 0", "Q 1 2 0"}
	for _, x := range parts {
		for _, y := range parts {
			for _, z := range parts {
				s := storeOf(strings.Join([]string{x, y, z}, ";"))
				for i, a := range words {
					for _, b := range words[i:] {
						Unify(s, typeOf(a), typeOf(b))
						Same(s, typeOf(a), typeOf(b))
					}
				}
			}
		}
	}
	trail := []api.Change{{Id: -1}, {Id: 9, New: true}}
	for _, x := range strangeTypes() {
		for _, y := range strangeTypes() {
			for _, s := range []api.Store{{}, {Slots: []api.Slot{{Bound: true, Type: x}, {Bound: true, Type: y}, {Type: x}}, Trail: trail}, {Slots: make([]api.Slot, 3)}} {
				Unify(s, x, y)
				Unify(s, types.Con("Q", types.Var(0), y, x), types.Con("Q", x, types.Var(1), types.Var(2)))
				Same(s, x, y)
				Same(s, types.Var(0), y)
			}
		}
	}
	for _, wrap := range []func(api.Type) api.Type{same, listOf, pairOf} {
		s := chain(100000, wrap)
		s.Slots[0] = api.Slot{Bound: true, Type: wrap(types.Var(99999))}
		Unify(s, types.Var(5), types.Var(6))
		Unify(s, types.Var(5), types.Int())
		Same(s, types.Var(5), types.Var(6))
	}
	args := make([]api.Type, 1)
	args[0] = api.Type{Kind: api.TypeCon, Name: "L", Args: args}
	if _, err := Unify(api.Store{}, args[0], args[0]); err != api.ErrLarge || Same(api.Store{}, args[0], args[0]) {
		t.Errorf("Unify of a type without an end = %d", err)
	}
}

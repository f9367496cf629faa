package store

import (
	"math"
	"strconv"
	"testing"

	"typedholes/api"
)

// P16.1: New returns a store that has nothing.
func TestNew(t *testing.T) {
	if s := New(); len(s.Slots) != 0 || len(s.Trail) != 0 || !Valid(s) || Mark(s) != 0 {
		t.Errorf("New is %+v", s)
	}
}

// P16.1: Fresh adds one slot behind the others, and one entry to the trail.
func TestFresh(t *testing.T) {
	s, want, trail := New(), "", ""
	for i, c := range []struct {
		home int
		base bool
	}{{0, false}, {-1, true}, {5, true}, {5, false}, {1000000, false}, {math.MaxInt, true}, {math.MinInt, false}} {
		var v api.Type
		s, v = Fresh(s, c.home, c.base)
		if write(v) != strconv.Itoa(i) {
			t.Errorf("the type variable %d is %+v", i, v)
		}
		want += "false !kind0!id0 home " + strconv.Itoa(c.home) + " " + strconv.FormatBool(c.base) + "\n"
		trail += "change " + strconv.Itoa(i) + " true false !kind0!id0 home 0 false\n"
		if got := writeStore(s); got != want+trail {
			t.Fatalf("the store is\n%swant\n%s", got, want+trail)
		}
		if Mark(s) != i+1 || !Valid(s) {
			t.Fatalf("after %d calls of Fresh, Mark is %d and Valid is %v", i+1, Mark(s), Valid(s))
		}
	}
}

// P16.1: the number of a new slot is that of the slots, and not of the trail.
func TestFreshAfterSet(t *testing.T) {
	s, v := Fresh(storeOf("-;L 0;Int"), 4, true)
	if write(v) != "3" || len(s.Slots) != 4 || len(s.Trail) != 1 {
		t.Errorf("Fresh of a store without a trail is %+v, %+v", s, v)
	}
	s, _ = Set(s, 0, slotOf("Int", 0, false))
	s, _ = Set(s, 0, slotOf("T", 0, false))
	if s, v = Fresh(s, 4, true); write(v) != "4" || len(s.Slots) != 5 || len(s.Trail) != 4 {
		t.Errorf("Fresh of a store with changes is %+v, %+v", s, v)
	}
}

// P16.1: Set replaces this slot alone, by this one, and notes what it was.
func TestSet(t *testing.T) {
	slots := []api.Slot{slotOf("-", 3, true), slotOf("-", 0, false), slotOf("Int", -1, false), slotOf("L 0", 7, true), slotOf("9", 2, false), {Type: typeOf("T")}, {Bound: true}}
	for _, words := range []string{"-", "-;-;-", "L 1;-;Int", "-;P 0 0;1;T"} {
		for id := range storeOf(words).Slots {
			for _, slot := range slots {
				s, _ := Fresh(storeOf(words), 6, true)
				got, is := Set(s, id, slot)
				want := api.Store{Trail: append([]api.Change{}, s.Trail...)}
				want.Trail = append(want.Trail, api.Change{Id: id, Old: s.Slots[id]})
				for i, old := range s.Slots {
					if i == id {
						old = slot
					}
					want.Slots = append(want.Slots, old)
				}
				if !is || writeStore(got) != writeStore(want) || Mark(got) != Mark(s)+1 {
					t.Fatalf("Set(%s, %d, %+v) is %v\n%swant\n%s", words, id, slot, is, writeStore(got), writeStore(want))
				}
			}
		}
	}
}

// P16.1: without such a slot, Set returns the store, and false.
func TestSetOfNoSlot(t *testing.T) {
	for _, words := range []string{"", "-", "-;Int;L 0"} {
		s := storeOf(words)
		for _, id := range []int{math.MinInt, -2, -1, len(s.Slots), len(s.Slots) + 1, 1000000, math.MaxInt} {
			if got, is := Set(s, id, slotOf("T", 0, false)); is || writeStore(got) != writeStore(s) {
				t.Errorf("Set(%s, %d) is %v, %+v", words, id, is, got)
			}
		}
		if len(s.Slots) > 0 {
			s, _ = Set(s, 0, slotOf("T", 0, false))
			if got, is := Set(s, len(s.Slots), slotOf("Int", 0, false)); is || writeStore(got) != writeStore(s) {
				t.Errorf("Set of no slot after a change is %v, %+v", is, got)
			}
		}
	}
}

// P16.1: also a change to the same slot is in the trail.
func TestSetOfSame(t *testing.T) {
	s, _ := Set(storeOf("Int"), 0, storeOf("Int").Slots[0])
	if Mark(s) != 1 || writeSlot(s.Trail[0].Old) != writeSlot(s.Slots[0]) {
		t.Errorf("Set of the same slot is %+v", s)
	}
}

// chance is a fixed sequence of numbers that looks like chance.
type chance uint32

func (c *chance) below(n int) int {
	*c = *c*1664525 + 1013904223
	return int(*c>>8) % n
}

// randomSlot returns a slot whose type is written with variables up to an Id.
func randomSlot(c *chance, most int) api.Slot {
	words := "-"
	switch v := strconv.Itoa(c.below(most + 1)); c.below(5) {
	case 0:
		words = v
	case 1:
		words = "L " + v
	case 2:
		words = "-> Int " + v
	case 3:
		words = "T"
	}
	return slotOf(words, c.below(5)-1, c.below(2) == 0)
}

// randomCall returns the store after a call of Fresh or Set.
func randomCall(c *chance, s api.Store) api.Store {
	if len(s.Slots) == 0 || c.below(3) == 0 {
		s, _ = Fresh(s, c.below(7)-1, c.below(2) == 0)
		return s
	}
	s, _ = Set(s, c.below(len(s.Slots)), randomSlot(c, len(s.Slots)))
	return s
}

// P16.3, P16.4: Rollback to a mark returns the store that had it, also from a store
// that was itself rolled back.
func TestRollback(t *testing.T) {
	for seed := range 60 {
		c := chance(seed)
		for _, words := range []string{"", "Int;-;L 1"} {
			stores := []api.Store{storeOf(words)} // the store for each mark
			for range 100 {
				s := stores[len(stores)-1]
				if c.below(6) == 0 {
					mark := c.below(len(stores))
					s, _ = Rollback(s, mark)
					stores = stores[:mark+1]
				} else {
					s = randomCall(&c, s)
					stores = append(stores, s)
				}
				if Mark(s) != len(stores)-1 || Mark(s) != len(s.Trail) {
					t.Fatalf("Mark is %d; want %d", Mark(s), len(stores)-1)
				}
				for mark, want := range stores {
					got, is := Rollback(s, mark)
					if !is || writeStore(got) != writeStore(want) {
						t.Fatalf("seed %d: Rollback to %d is %v\n%swant\n%s", seed, mark, is, writeStore(got), writeStore(want))
					}
				}
			}
		}
	}
}

// P16.3: the changes of one slot are undone from the newest one on.
func TestRollbackOfOneSlot(t *testing.T) {
	s, _ := Fresh(New(), 4, true)
	l := []string{"-", "Int", "T", "L Int", "-", "P Int T"}
	for i, words := range l[1:] {
		s, _ = Set(s, 0, slotOf(words, i, false))
	}
	for i, words := range l {
		got, is := Rollback(s, i+1)
		want := writeSlot(slotOf(words, i-1, false))
		if i == 0 {
			want = writeSlot(slotOf("-", 4, true))
		}
		if !is || len(got.Slots) != 1 || writeSlot(got.Slots[0]) != want || Mark(got) != i+1 {
			t.Errorf("Rollback to %d is %v, %+v; want %s", i+1, is, got, want)
		}
	}
	if got, is := Rollback(s, 0); !is || len(got.Slots) != 0 || Mark(got) != 0 {
		t.Errorf("Rollback to 0 is %v, %+v", is, got)
	}
}

// P16.3: a mark that the trail has not reached changes nothing.
func TestRollbackToNoMark(t *testing.T) {
	for length := range 4 {
		s := New()
		for range length {
			s, _ = Fresh(s, 2, false)
		}
		for _, mark := range []int{math.MinInt, -2, -1, length + 1, length + 2, 1000000, math.MaxInt} {
			if got, is := Rollback(s, mark); is || writeStore(got) != writeStore(s) {
				t.Errorf("Rollback of %d entries to %d is %v, %+v", length, mark, is, got)
			}
		}
		if got, is := Rollback(s, length); !is || writeStore(got) != writeStore(s) {
			t.Errorf("Rollback of %d entries to %d is %v, %+v", length, length, is, got)
		}
	}
}

// The chapter's example.
func TestExample(t *testing.T) {
	s, v := Fresh(New(), 0, false)
	s, _ = Set(s, 0, slotOf("Int", 0, false))
	if got, is := Resolve(s, v); !is || write(got) != "Int" {
		t.Errorf("Resolve is %+v, %v", got, is)
	}
	if got, is := Rollback(s, 0); !is || len(got.Slots) != 0 {
		t.Errorf("Rollback is %+v, %v", got, is)
	}
}

// P16.4, P0.4: stores that come from one store do not change it, nor each other.
func TestBranches(t *testing.T) {
	c := chance(1)
	var stores []api.Store
	var texts []string
	keep := func(s api.Store) {
		stores, texts = append(stores, s), append(texts, all(s))
	}
	keep(New())
	keep(spare(storeOf("-;L 0;P 1 1")))
	for range 400 {
		s := stores[c.below(len(stores))]
		if c.below(3) == 0 {
			s, _ = Rollback(s, c.below(Mark(s)+1))
		} else {
			s = randomCall(&c, s)
		}
		keep(s)
	}
	for i, s := range stores {
		if all(s) != texts[i] {
			t.Fatalf("a store has become\n%swant\n%s", all(s), texts[i])
		}
	}
}

// P0.4: arguments stay as they are, with the capacity of their lists.
func TestArgumentsStay(t *testing.T) {
	for _, words := range []string{"", "-", "-;L 0;P 1 1", "-> 1 2;-;Q 3 3 3;4;T"} {
		made, _ := Fresh(storeOf(words), 3, true)
		made, _ = Set(made, 0, slotOf("Q Int T Int", 0, false))
		made, _ = Set(made, 0, slotOf("L T", 2, true))
		for i, x := range []string{"0", "Q 1 L 2 0", "P 9 Int"} {
			s, u, v := spare(made), spareType(typeOf(x)), spareType(typeOf("-> 2 L 0"))
			list := append(make([]api.Type, 0, 5), u, v)
			list[:5][2] = typeOf("mark")
			before := all(s) + allType(u) + allType(v)
			New()
			Fresh(s, 1, true)
			Set(s, 0, api.Slot{Bound: true, Type: u})
			Set(s, -1, api.Slot{Bound: true, Type: u})
			Valid(s)
			Mark(s)
			Walk(s, u)
			Size(s, u, 10)
			Resolve(s, u)
			Vars(s, list...)
			for mark := range Mark(s) + 2 {
				Rollback(s, mark)
			}
			if after := all(s) + allType(u) + allType(v); after != before || write(list[:5][2]) != "mark" || write(list[0]) != x {
				t.Fatalf("case %d: the arguments have become\n%swant\n%s", i, after, before)
			}
		}
	}
}

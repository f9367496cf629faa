package unify

import (
	"strings"
	"testing"

	"typedholes/api"
	"typedholes/types"
)

// P17.2: Same of a few types.
func TestSame(t *testing.T) {
	most, more := repeated("L", 199, "Int"), repeated("L", 200, "Int")
	for _, c := range []struct {
		slots, a, b string
		want        bool
	}{
		{"", "Int", "Int", true}, {"", "Int", "T", false}, {"", "L Int", "L Int", true}, {"", "P Int T", "P T Int", false}, {"", "L Int", "L/0", false},
		{"", "0", "0", true}, {"", "0", "1", false}, {"-;-", "0", "0", true}, {"-;-", "0", "1", false}, {"-;-", "P 0 1", "P 0 1", true}, {"-;-", "P 0 1", "P 1 0", false},
		{"1;-", "0", "1", true}, {"1;-", "P 0 1", "P 1 0", true}, {"1;-", "P 0 0", "P 0 2", false}, {"Int;Int@3!", "0", "1", true}, {"Int;T", "0", "1", false}, {"Int", "0", "Int", true},
		{"1;2;-", "L 0", "L 2", true}, {"L 1;-;L 1", "0", "2", true}, {"L 2;-;-", "0", "L 1", false}, {"P 1 1;2;L T", "0", "P L T 2", true},
		{"", "b0", "b0", true}, {"", "b0", "b1", false}, {"", "r1.0", "r1.0", true}, {"", "r1.0", "r1.1", false}, {"", "r1.0", "r0.0", false}, {"", "a", "a", true}, {"", "a", "c", false}, {"", "b0", "0", false},
		{"-", "0", "Int", false}, // what could become the same is not
		{"", most, most, true}, {"", more, more, false}, {"", most, more, false}, {"", more, most, false},
		{most + ";0", "1", most, true}, {most + ";L 0", "1", "1", false}, {most + ";L 0", "1", "L 0", false}, {more, "0", "0", false},
		{"-;L 0", repeated("L", 198, "1"), repeated("L", 199, "0"), true}, {"-;L 0", repeated("L", 199, "1"), repeated("L", 200, "0"), false},
	} {
		s := storeOf(c.slots)
		before := writeStore(s)
		for _, turn := range []bool{false, true} {
			a, b := typeOf(c.a), typeOf(c.b)
			if turn {
				a, b = b, a
			}
			if got := Same(s, a, b); got != c.want || writeStore(s) != before {
				t.Errorf("Same(%.50s, %.50s, %.50s) is %v", c.slots, c.a, c.b, got)
			}
		}
	}
}

// P17.2: Same of all pairs of samples agrees with the words of the resolved forms.
func TestSameOfAll(t *testing.T) {
	count := map[bool]int{}
	for _, slots := range sampleStores() {
		s, m := storeOf(slots), modelOf(slots)
		for _, a := range sampleTypes() {
			for _, b := range sampleTypes() {
				want := m.form(a) == m.form(b)
				if got := Same(s, typeOf(a), typeOf(b)); got != want {
					t.Fatalf("Same(%s, %s, %s) is %v", slots, a, b, got)
				}
				count[want]++
			}
		}
	}
	if count[true] < 800 || count[false] < 10000 {
		t.Errorf("only %v", count)
	}
}

// P17.2, P0.1: types that double with each variable.
func TestSameOfDoubled(t *testing.T) {
	s := chain(100000, pairOf)
	for i := range 100 {
		x := types.Var(i)
		if got, want := Same(s, x, x), i < 7; got != want {
			t.Errorf("Same of the variable %d is %v", i, got)
		}
	}
	if Same(s, types.Var(99999), types.Var(99999)) || Same(s, types.Int(), types.Var(99999)) {
		t.Error("Same of types that are too large")
	}
}

// P17.3: after Unify, types can be equal and too large: it then was not too large as
// long as its parts were treated.
func TestSameOfLarge(t *testing.T) {
	// 1 becomes a type with four times 0 before 0 becomes large.
	a, b := "P 1 0", "P P P 0 0 P 0 0 "+repeated("L", 60, "Int")
	s, err := Unify(storeOf("-;-"), typeOf(a), typeOf(b))
	form := formOf(t, s, a)
	if err != api.OK || len(strings.Fields(form)) != 1+3+4*61+61 || formOf(t, s, b) != form {
		t.Fatalf("Unify = %d, %s", err, form)
	}
	if Same(s, typeOf(a), typeOf(b)) {
		t.Error("Same of types that are too large")
	}
	if again, err := Unify(s, typeOf(a), typeOf(b)); err != api.ErrLarge || writeStore(again) != writeStore(s) {
		t.Errorf("Unify again = %d", err)
	}
}

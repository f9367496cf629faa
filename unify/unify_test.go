package unify

import (
	"testing"

	"typedholes/api"
)

// P17.1: Unify of a few types without an error: the slots, and the changes of them.
func TestUnify(t *testing.T) {
	for _, c := range []struct{ slots, a, b, want, changes string }{
		// Nothing is to be done.
		{"", "Int", "Int", "", ""},
		{"-@2!", "0", "0", "-@2!", ""},
		{"-", "7", "7", "-", ""}, // without a slot
		{"-", "b3", "b3", "-", ""}, {"-", "r1.2", "r1.2", "-", ""}, {"-", "a", "a", "-", ""},
		{"-;-", "Q 0 L 1 -> b0 r9.0", "Q 0 L 1 -> b0 r9.0", "-;-", ""},
		{"Int;T", "P 0 1", "P Int T", "Int;T", ""},
		{"1;2;-@5", "0", "1", "1;2;-@5", ""}, {"-;0;0", "2", "1", "-;0;0", ""},
		{"L 1;-;L 1", "0", "2", "L 1;-;L 1", ""},
		// Two type variables.
		{"-@2;-@1", "0", "1", "-@1;0@1", "1: -@1, 0: -@2"}, // the chapter's example
		{"-@1;-@2", "0", "1", "-@1;0@2", "1: -@2"},
		{"-@1;-@1", "0", "1", "-@1;0@1", "1: -@1"},
		{"-!;-", "0", "1", "-!;0", "1: -"},
		{"-;-!", "0", "1", "-!;0!", "1: -!, 0: -"},
		{"-!;-!", "0", "1", "-!;0!", "1: -!"},
		{"-@5;-@3!", "0", "1", "-@3!;0@3!", "1: -@3!, 0: -@5"},
		{"-@3!;-@5", "0", "1", "-@3!;0@5", "1: -@5"},
		{"-@3;-@5!", "0", "1", "-@3!;0@5!", "1: -@5!, 0: -@3"},
		{"-@5!;-@3", "0", "1", "-@3!;0@3", "1: -@3, 0: -@5!"},
		{"-@-1;-@-2", "0", "1", "-@-2;0@-2", "1: -@-2, 0: -@-1"},
		{"-;3;-;-@-9", "1", "2", "-;3;-@-9;2@-9", "3: -@-9, 2: -"}, // the variables at the end count
		{"3;-;-@7;-", "0", "1", "3;-;-@7;1", "3: -"},
		// A type variable and another type.
		{"-@3!", "0", "Int", "Int@3!", "0: -@3!"},
		{"-@3", "0", "-> Int T", "-> Int T@3", "0: -@3"},
		{"-", "0", "b0", "b0", "0: -"}, {"-", "0", "a", "a", "0: -"},
		{"-", "0", "7", "7", "0: -"}, // the variable 7 has no slot
		{"-!", "0", "L -> Int Int", "L -> Int Int!", "0: -!"},
		{"-@3", "0", "r3.1", "r3.1@3", "0: -@3"}, {"-@3", "0", "L r2.0", "L r2.0@3", "0: -@3"}, {"-", "0", "r-1.0", "r-1.0", "0: -"},
		{"-@1;-@5;-@7", "P 1 2", "0", "P 1 2@1;-@1;-@1", "1: -@5, 2: -@7, 0: -@1"},
		{"-@1;-@5;-@7", "P 2 1", "0", "P 2 1@1;-@1;-@1", "2: -@7, 1: -@5, 0: -@1"},
		{"-@5;-@5!;-@7!;-@4", "0", "Q 1 2 3", "Q 1 2 3@5;-@5!;-@5!;-@4", "2: -@7!, 0: -@5"}, // bases are not passed on to parts
		{"-@1;L 2@8;-@9", "0", "1", "L 2@1;L 2@8;-@1", "2: -@9, 0: -@1"},                    // 0 stands for the type, not for 1
		{"2;-@6;-@3", "0", "-> L 1 L 9", "2;-@3;-> L 1 L 9@3", "1: -@6, 2: -@3"},
		{"-;2;L 3;-", "0", "P 1 2", "P 1 2;2;L 3;-", "0: -"}, // bound variables in the type stay
		{"-@2;L 2@4;-@9", "0", "P 1 1", "P 1 1@2;L 2@4;-@2", "2: -@9, 0: -@2"},
		// Arguments, from left to right, in the store as it is then.
		{"-;-;-", "P 0 1", "P 1 2", "-;0;0", "1: -, 2: -"},
		{"-;-;-", "P 1 0", "P 2 1", "-;0;1", "2: -, 1: -"},
		{"-;-;-", "Q 0 0 0", "Q L 1 L 2 L T", "L 1;T;1", "0: -, 2: -, 1: -"},
		{"-;-;-", "-> P 0 1 2", "-> P 1 2 Int", "Int;0;0", "1: -, 2: -, 0: -"},
		{"-@4;-@3;-@2", "Q 0 1 2", "Q 1 2 T", "T@2;0@3;0@2", "1: -@3, 0: -@4, 2: -@2, 0: -@3, 0: -@2"},
	} {
		s, err := Unify(storeOf(c.slots), typeOf(c.a), typeOf(c.b))
		if want := c.want + " | " + c.changes; err != api.OK || writeStore(s) != want {
			t.Errorf("Unify(%s, %s, %s) = %s, %d; want %s", c.slots, c.a, c.b, writeStore(s), err, want)
		}
	}
}

// testErrors checks that Unify returns an error, and the store itself, for both
// orders of the types, with and without a trail.
func testErrors(t *testing.T, slots, a, b string, want api.Errno) {
	t.Helper()
	for _, trail := range [][]api.Change{nil, {{Id: 0, Old: slotOf("L T@7!")}, {Id: 0, New: true}}} {
		s := storeOf(slots)
		s.Trail = trail
		before := writeStore(s)
		for range 2 {
			u, err := Unify(s, typeOf(a), typeOf(b))
			if err != want || writeStore(u) != before {
				t.Errorf("Unify(%s, %.50s, %.50s) = %s, %d; want %d", slots, a, b, writeStore(u), err, want)
			}
			a, b = b, a
		}
	}
}

// P17.1: the errors of a few pairs.
func TestErrors(t *testing.T) {
	for _, c := range []struct {
		slots, a, b string
		want        api.Errno
	}{
		{"-", "Int", "T", api.ErrMismatch}, {"-", "L Int", "L T", api.ErrMismatch}, {"-", "L 0", "P 0 0", api.ErrMismatch}, {"-", "-> 0 0", "P 0 0", api.ErrMismatch},
		{"-", "L 0", "L/0", api.ErrMismatch}, {"-", "P Int T", "P/1 Int", api.ErrMismatch}, {"-", "Int", "L Int", api.ErrMismatch},
		{"-", "b0", "b1", api.ErrMismatch}, {"-", "r1.0", "r1.1", api.ErrMismatch}, {"-", "r1.0", "r2.0", api.ErrMismatch}, {"-", "a", "c", api.ErrMismatch},
		{"-", "b0", "r0.0", api.ErrMismatch}, {"-", "b0", "Int", api.ErrMismatch}, {"-", "r0.0", "Int", api.ErrMismatch}, {"-", "a", "A", api.ErrMismatch}, {"-", "a", "b0", api.ErrMismatch}, {"-", "r0.0", "a", api.ErrMismatch},
		{"-", "7", "8", api.ErrMismatch}, {"-", "7", "Int", api.ErrMismatch}, {"-", "1", "r0.1", api.ErrMismatch}, {"-", "1", "b1", api.ErrMismatch}, {"-", "1", "L 1", api.ErrMismatch}, {"Int", "5", "1", api.ErrMismatch},
		{"Int;1", "0", "T", api.ErrMismatch}, {"1;Int", "L 0", "L T", api.ErrMismatch},
		{"-", "0", "L 0", api.ErrOccurs}, {"-;0", "1", "L 1", api.ErrOccurs}, {"-;L 0", "0", "1", api.ErrOccurs}, {"-;0", "0", "P Int 1", api.ErrOccurs}, {"-;P Int 0;1", "0", "-> 2 T", api.ErrOccurs},
		{"-;-", "P 0 1", "P L 1 L 0", api.ErrOccurs}, {"-;-", "P 0 L 0", "P 1 1", api.ErrOccurs},
		{"-!", "0", "-> Int Int", api.ErrBase}, {"-!;-> Int Int", "0", "1", api.ErrBase}, {"1;-!", "0", "-> b0 b1", api.ErrBase}, {"-!;-", "P 0 1", "P 1 -> T T", api.ErrBase}, {"-;-!", "P 0 0", "P 1 -> T T", api.ErrBase},
		{"-", "0", "r1.0", api.ErrEscape}, {"-@2", "0", "r3.0", api.ErrEscape}, {"-@2", "0", "P r2.0 L r3.0", api.ErrEscape}, {"-@2;L 2;r3.0", "0", "L 1", api.ErrEscape}, {"-@-1", "0", "r0.0", api.ErrEscape}, {"-@-2", "0", "r-1.0", api.ErrEscape},
		{"-@-1", "0", "1", api.ErrEscape}, {"-@-1", "0", "L 1", api.ErrEscape}, {"-@-1;L 2", "0", "1", api.ErrEscape}, // variables without a slot have the home 0
		{"-@3;-@2", "P 0 1", "P 1 r3.0", api.ErrEscape}, {"-@3;-@2", "P 1 0", "P 0 r3.0", api.ErrEscape}, {"-@3;-@2", "P 1 0", "P L 0 r3.0", api.ErrEscape},
		{"-@2;r3.0@3", "P 0 1", "P Int 0", api.ErrMismatch},
		// The order of the errors of one pair.
		{"-!", "0", "-> 0 r1.0", api.ErrOccurs}, {"-", "0", "P 0 r1.0", api.ErrOccurs}, {"-!", "0", "-> Int r1.0", api.ErrBase}, {"-!", "0", "L r1.0", api.ErrEscape},
	} {
		testErrors(t, c.slots, c.a, c.b, c.want)
	}
}

// P17.1: of several pairs with errors, the first one from left to right decides.
func TestFirstError(t *testing.T) {
	for _, c := range []struct {
		slots, a, b string
		want        api.Errno
	}{
		{"-;-!", "P 0 Int", "P L 0 T", api.ErrOccurs}, {"-;-!", "P Int 0", "P T L 0", api.ErrMismatch},
		{"-;-!", "P 1 0", "P -> Int Int L 0", api.ErrBase}, {"-;-!", "P 0 1", "P L 0 -> Int Int", api.ErrOccurs},
		{"-;-!", "P 0 1", "P r1.0 -> Int Int", api.ErrEscape}, {"-;-!", "P 1 0", "P -> Int Int r1.0", api.ErrBase},
		{"-;-!", "P L L 0 Int", "P L L L 0 T", api.ErrOccurs}, {"-;-!", "P Int L L 0", "P T L L L 0", api.ErrMismatch},
		{"-;-!", "Q P 0 Int P 1 1 Int", "Q P L 0 T P -> T T 1 T", api.ErrOccurs}, {"-;-!", "Q P T Int P 1 1 L 0", "Q P T T P -> T T 1 0", api.ErrMismatch}, {"-;-!", "Q P T T P 1 0 Int", "Q P T T P -> T T L 0 T", api.ErrBase},
		{"-;-", "Q 0 1 P 0 1", "Q Int L Int P 1 r1.0", api.ErrMismatch}, {"-;-", "Q 0 1 P 1 0", "Q 1 7 P r1.0 T", api.ErrMismatch},
		{"-;-", "P P 0 1 0", "P P 1 Int r1.0", api.ErrMismatch}, {"-;-", "P P 0 7 1", "P P 1 7 r1.0", api.ErrEscape},
	} {
		testErrors(t, c.slots, c.a, c.b, c.want)
	}
}

// P17.1: types with too many nodes, also before anything else is looked at.
func TestLarge(t *testing.T) {
	most, more := repeated("L", 199, "Int"), repeated("L", 200, "Int")
	for _, c := range []struct {
		slots, a, b string
		want        api.Errno
	}{
		{"-", "0", most, api.OK}, {"-", "0", more, api.ErrLarge},
		{"-", most, most, api.OK}, {"-", more, more, api.ErrLarge}, {"-", "Int", more, api.ErrLarge}, {"-", "Int", most, api.ErrMismatch},
		{more + ";-", "0", "0", api.ErrLarge}, {more + ";0", "0", "1", api.ErrLarge}, {most + ";0", "0", "1", api.OK},
		{"-", "0", repeated("L", 199, "0"), api.ErrOccurs}, {"-", "0", repeated("L", 200, "0"), api.ErrLarge},
		{"-!", "0", "-> Int " + repeated("L", 198, "r7.0"), api.ErrLarge}, {"-!", "0", "-> Int " + repeated("L", 197, "r7.0"), api.ErrBase},
		{"-;L Int", "0", repeated("L", 198, "1"), api.OK}, {"-;L Int", "0", repeated("L", 199, "1"), api.ErrLarge},
		// Parts that have grown by what was bound before.
		{"-;-", "P 0 1", "P " + repeated("L", 100, "Int") + " " + repeated("L", 99, "0"), api.ErrLarge},
		{"-;-", "P 0 1", "P " + repeated("L", 99, "Int") + " " + repeated("L", 99, "0"), api.ErrLarge},
		{"-;-", "P 0 1", "P " + repeated("L", 98, "Int") + " " + repeated("L", 99, "0"), api.OK},
		{"-;-;-", "P 0 1", "P 2 " + repeated("L", 198, "2"), api.ErrLarge}, {"-;-;-", "P 0 1", "P 2 " + repeated("L", 197, "2"), api.OK},
		// The first error decides also here.
		{"-;-", "Q 0 1 Int", "Q " + repeated("L", 99, "Int") + " P 0 0 T", api.ErrLarge},
		{"-;-", "Q 0 1 Int", "Q " + repeated("L", 98, "Int") + " P 0 0 T", api.ErrMismatch},
		{"-;-", "Q 0 Int 1", "Q " + repeated("L", 99, "Int") + " T P 0 0", api.ErrMismatch},
		{"-;-;-", "Q 0 2 1", "Q " + repeated("L", 99, "Int") + " L 2 P 0 0", api.ErrOccurs},
		{"-;-;-", "Q 0 1 2", "Q " + repeated("L", 99, "Int") + " P 0 0 L 2", api.ErrLarge},
	} {
		if c.want != api.OK {
			testErrors(t, c.slots, c.a, c.b, c.want)
		} else if _, err := Unify(storeOf(c.slots), typeOf(c.a), typeOf(c.b)); err != api.OK {
			t.Errorf("Unify(%.50s, %.50s, %.50s) = %d", c.slots, c.a, c.b, err)
		}
		if want := modelOf(c.slots).unify(c.a, c.b); want != c.want {
			t.Errorf("the model has %d for %.50s, %.50s, %.50s", want, c.slots, c.a, c.b)
		}
	}
}

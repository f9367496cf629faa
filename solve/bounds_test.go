package solve

import (
	"strconv"
	"strings"
	"testing"

	"typedholes/api"
	"typedholes/types"
)

// P0.4: arguments stay as they are, with the capacity of their lists.
func TestArgumentsStay(t *testing.T) {
	samples := sampleAssigns()
	l := sampleEquations()
	for i, e := range l {
		for k, f := range l {
			system := spareEquations(equations(e + " | " + f + " | " + l[(i*7+k*3)%len(l)]))
			s, other := spareAssigns(assigns(samples[(i*3+k)%len(samples)])), spareAssigns(assigns(samples[(i+k*5)%len(samples)]))
			before := allEquations(system) + allAssigns(s) + allAssigns(other)
			Solve(system)
			Unifies(s, system)
			Principal(s, system, other)
			Vars(system)
			if after := allEquations(system) + allAssigns(s) + allAssigns(other); after != before {
				t.Fatalf("the arguments have become\n%s; want\n%s", after, before)
			}
		}
	}
}

// P0.4: a solution stays as it is when longer lists are solved.
func TestSolutionStays(t *testing.T) {
	c := chance(12)
	for range 300 {
		system := equations(growing(&c, 12))
		var solutions [][]api.Assign
		var texts []string
		for i := range system {
			s, _, _ := Solve(system[:i])
			solutions, texts = append(solutions, s), append(texts, writeAll(s))
		}
		for i, s := range solutions {
			if writeAll(s) != texts[i] {
				t.Fatalf("a solution has become %s; want %s", writeAll(s), texts[i])
			}
		}
	}
}

// P0.7: the same arguments have the same results.
func TestSolveAgain(t *testing.T) {
	c := chance(5)
	for range 500 {
		system := growing(&c, 10)
		s, index, err := Solve(equations(system))
		if other, otherIndex, otherErr := Solve(equations(system)); writeAll(other) != writeAll(s) || otherIndex != index || otherErr != err {
			t.Fatalf("Solve(%s) = %s, %d, %d, and then %s, %d, %d", system, writeAll(s), index, err, writeAll(other), otherIndex, otherErr)
		}
	}
}

// P0.5: an empty list is nil or not.
func TestEmpty(t *testing.T) {
	for _, l := range [][]api.Equation{nil, {}} {
		if s, index, err := Solve(l); len(s) > 0 || index != 0 || err != api.OK {
			t.Errorf("Solve = %+v, %d, %d", s, index, err)
		}
		if len(Vars(l)) > 0 {
			t.Errorf("Vars = %v", Vars(l))
		}
		for _, s := range [][]api.Assign{nil, {}} {
			if !Unifies(s, l) || !Principal(s, l, nil) || !Principal(nil, l, s) || !Unifies(s, equations("0 ~ 0")) || Unifies(s, equations("0 ~ 1")) {
				t.Error("Unifies or Principal of empty lists")
			}
		}
	}
	a, b := types.Con("T"), api.Type{Kind: api.TypeCon, Name: "T", Args: []api.Type{}}
	if s, index, err := Solve([]api.Equation{{Left: a, Right: b}}); len(s) > 0 || index != 1 || err != api.OK || !Unifies(nil, []api.Equation{{Left: a, Right: b}}) {
		t.Errorf("Solve = %+v, %d, %d", s, index, err)
	}
}

// P0.1: arguments that are not valid do not let anything panic.
func TestStrange(t *testing.T) {
	l := append(strange(), typeOf("0"), typeOf("P 0 L 1"))
	for i, a := range l {
		for k, b := range l {
			c := l[(i*5+k*3+1)%len(l)]
			system := []api.Equation{{Left: a, Right: b}}
			long := []api.Equation{{Left: types.Var(0), Right: a}, {Left: b, Right: types.Var(2)}, {Left: c, Right: types.Con("P", a, types.Var(2))}, {}}
			s := []api.Assign{{Id: 0, Type: a}, {Id: -1, Type: b}, {Id: 2, Type: c}, {Id: 0, Type: b}}
			for _, m := range [][]api.Equation{system, long} {
				found, index, err := Solve(m)
				if index < 0 || index > len(m) || err != api.OK && len(found) > 0 {
					t.Errorf("Solve(%+v) = %+v, %d, %d", m, found, index, err)
				}
				Unifies(s, m)
				Principal(s, m, found)
				Principal(found, m, s)
				Principal(s, m, s)
				Vars(m)
			}
		}
	}
}

// deep returns a type of a depth.
func deep(depth int, leaf api.Type) api.Type {
	for i := range depth {
		if i%2 == 0 {
			leaf = types.Arrow(types.Int(), leaf)
		} else {
			leaf = types.Con("L", leaf)
		}
	}
	return leaf
}

// P0.1, P0.8: types with as many levels as are promised, all of which are too large.
func TestDeep(t *testing.T) {
	const depth = 1<<16 - 2
	x, y := deep(depth, types.Var(7)), deep(depth, types.Int())
	s := []api.Assign{{Id: 7, Type: types.Int()}, {Id: 8, Type: x}}
	for _, l := range [][]api.Equation{
		{{Left: types.Var(8), Right: x}, {Left: x, Right: y}}, {{Left: y, Right: x}}, {{Left: types.Int(), Right: x}}, {{Left: types.Var(7), Right: x}},
	} {
		if found, index, err := Solve(l); len(found) > 0 || index != 0 || err != api.ErrLarge {
			t.Errorf("Solve = %d, %d", index, err)
		}
	}
	l := []api.Equation{{Left: x, Right: y}, {Left: y, Right: x}}
	if !Unifies(s, l) || Unifies(nil, l) || !Principal(s, l, s) || Principal(nil, l, s) {
		t.Error("Unifies or Principal of deep types")
	}
	if ids := Vars(l); len(ids) != 1 || ids[0] != 7 {
		t.Errorf("Vars = %v", ids)
	}
}

// wide returns a type with so many leaves.
func wide(count int, leaf func(int) api.Type) api.Type {
	if count == 1 {
		return leaf(0)
	}
	half := count / 2
	return types.Con("P", wide(half, leaf), wide(count-half, func(i int) api.Type { return leaf(half + i) }))
}

// P0.8: that a wide type is too large is found in a short time, also behind a long
// solution.
func TestWide(t *testing.T) {
	const vars, leaves = 1000, 100000
	var l []api.Equation
	for i := range vars {
		l = append(l, api.Equation{Left: types.Var(i), Right: types.Con("L", types.Var(vars+i))})
	}
	x := wide(leaves, func(i int) api.Type { return types.Var(vars - 1 - i%3) })
	l = append(l, api.Equation{Left: types.Int(), Right: types.Int()})
	for range 100 {
		last := append(l, api.Equation{Left: x, Right: x})
		if s, index, err := Solve(last[vars:]); len(s) > 0 || index != 1 || err != api.ErrLarge {
			t.Fatalf("Solve = %d, %d", index, err)
		}
	}
	if s, index, err := Solve(append(l, api.Equation{Left: x, Right: types.Int()})); len(s) > 0 || index != vars+1 || err != api.ErrLarge {
		t.Errorf("Solve = %d, %d", index, err)
	}
}

// P0.8: long lists of equations between variables, in both directions, and then of
// other types.
func TestLong(t *testing.T) {
	const length = 1500
	for _, turn := range []bool{false, true} {
		var l []api.Equation
		for i := range length {
			k := i
			if turn {
				k = length - 1 - i
			}
			l = append(l, api.Equation{Left: types.Var(k), Right: types.Var(k + 1)})
		}
		for _, c := range []struct {
			last api.Equation
			err  api.Errno
		}{
			{api.Equation{Left: types.Var(length / 2), Right: types.Con("L", types.Var(length+1))}, api.OK},
			{api.Equation{Left: types.Var(length / 2), Right: types.Con("L", types.Var(0))}, api.ErrOccurs},
			{api.Equation{Left: types.Con("P", types.Var(0), types.Int()), Right: types.Con("P", types.Var(length), types.Con("T"))}, api.ErrMismatch},
		} {
			all := append(l, c.last)
			s, index, err := Solve(all)
			if err != c.err || index != length && err != api.OK || index != length+1 && err == api.OK {
				t.Fatalf("Solve = %d, %d; want %d", index, err, c.err)
			}
			if err == api.OK && (len(s) != length+1 || !Unifies(s, all) || !Principal(s, all, s) || Unifies(s[1:], all)) {
				t.Errorf("Solve = %d assignments", len(s))
			}
		}
	}
}

// doubled writes an equation that gives type variables types which double, count times,
// and ends with two more sides.
func doubled(count int, left, right string) string {
	for i := count; i > 0; i-- {
		v := strconv.Itoa(i - 1)
		left, right = "P "+strconv.Itoa(i)+" "+left, "P P "+v+" "+v+" "+right
	}
	return left + " ~ " + right
}

// P0.1, P18.2: what a single equation gives a type variable can be far larger than its
// sides. That it is too large is found in a short time.
func TestDoubled(t *testing.T) {
	const count = 49 // the right side has 197 nodes
	for i := range count + 1 {
		want := api.OK
		if 2<<i-1 > api.MaxType {
			want = api.ErrLarge
		}
		if got := check(t, doubled(i, "Int", "Int")); got != want {
			t.Errorf("Solve of %d doubled types = %d", i, got)
		}
		if got := check(t, doubled(i, "Int", "T")); got != api.ErrMismatch {
			t.Errorf("Solve of %d doubled types with a mismatch = %d", i, got)
		}
		if got := check(t, doubled(i, "0", "L "+strconv.Itoa(i))); got != api.ErrOccurs {
			t.Errorf("Solve of %d doubled types with a circle = %d", i, got)
		}
		// Of the mismatch behind it nothing is seen.
		if got := check(t, "50 ~ L 51 | "+doubled(i, "50", "L Int")+" | Int ~ T"); (got == api.ErrLarge) != (want == api.ErrLarge) {
			t.Errorf("Solve of %d doubled types and a mismatch = %d", i, got)
		}
		// The large type is one of a variable that was assigned before.
		if got := check(t, "50 ~ "+strconv.Itoa(i)+" | "+doubled(i, "Int", "Int")); got != want {
			t.Errorf("Solve of %d doubled types of a variable = %d", i, got)
		}
	}
}

// P18.2: the sides of equations that share memory, and a list with one equation often.
func TestShared(t *testing.T) {
	shared := typeOf("P 0 L 1")
	x := types.Con("P", shared, shared)
	e := api.Equation{Left: x, Right: types.Con("P", types.Var(2), typeOf("P Int 3"))}
	s, index, err := Solve([]api.Equation{e, e, {Left: x, Right: x}, {Left: e.Right, Right: e.Left}, e})
	if err != api.OK || index != 5 || applied(writeAll(s), "Q 0 2 3") != "Q Int P Int L 1 L 1" {
		t.Errorf("Solve = %s, %d, %d", writeAll(s), index, err)
	}
	many := strings.Repeat("0 ~ L 1 | ", 500)
	if check(t, many+"1 ~ Int") != api.OK || check(t, many+"1 ~ 0") != api.ErrOccurs {
		t.Error("Solve of one equation often")
	}
}

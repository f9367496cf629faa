package lattice

import (
	"slices"
	"strings"
	"testing"

	"typedholes/api"
	"typedholes/subst"
	"typedholes/types"
)

// P15.2: Unify of a few types: what both become, or the error.
func TestUnify(t *testing.T) {
	for _, c := range []struct {
		a, b, want string
		err        api.Errno
	}{
		{"Int", "Int", "Int", api.OK},
		{"0", "0", "0", api.OK},
		{"0", "1", "0", api.OK},
		{"-> 0 1", "-> 1 0", "-> 0 0", api.OK},
		{"0", "Int", "Int", api.OK}, {"Int", "0", "Int", api.OK},
		{"0", "L 1", "L 0", api.OK}, {"L 1", "0", "L 0", api.OK},
		{"P 0 Int", "P L 1 1", "P L Int Int", api.OK},
		{"P L 1 1", "P 0 Int", "P L Int Int", api.OK},
		{"Q 0 1 2", "Q 1 2 0", "Q 0 0 0", api.OK},
		{"Q 0 1 2", "Q 1 2 Int", "Q Int Int Int", api.OK},
		{"Q 0 1 0", "Q 1 L 2 L Int", "Q L Int L Int L Int", api.OK},
		{"Q 0 0 1", "Q P 1 2 P 3 L 3 L 4", "Q P L 0 L L 0 P L 0 L L 0 L 0", api.OK},
		{"-> 0 b1", "-> b0 1", "-> b0 b1", api.OK},
		{"b0", "b0", "b0", api.OK}, {"b0", "b1", "", api.ErrMismatch}, {"b0", "r0.0", "", api.ErrMismatch}, {"b0", "Int", "", api.ErrMismatch}, {"b0", "0", "b0", api.OK},
		{"r1.2", "r1.2", "r1.2", api.OK}, {"r1.2", "r0.2", "", api.ErrMismatch}, {"r1.2", "r1.3", "", api.ErrMismatch}, {"r1.2", "T", "", api.ErrMismatch}, {"0", "r1.2", "r1.2", api.OK},
		{"a", "a", "a", api.OK}, {"a", "c", "", api.ErrMismatch}, {"a", "0", "a", api.OK}, {"a", "T", "", api.ErrMismatch},
		{"Int", "T", "", api.ErrMismatch}, {"Int", "L Int", "", api.ErrMismatch}, {"P 0 1", "-> 0 1", "", api.ErrMismatch}, {"L L 0", "L Int", "", api.ErrMismatch},
		{"0", "L 0", "", api.ErrOccurs}, {"L 0", "0", "", api.ErrOccurs}, {"0", "-> Int P T 0", "", api.ErrOccurs},
		{"P 0 1", "P L 1 L 0", "", api.ErrOccurs},
		{"P 0 L 0", "P 1 1", "", api.ErrOccurs},
		{"Q 0 1 2", "Q L 1 L 2 L 0", "", api.ErrOccurs},
		{"P 0 0", "P L 1 L L 0", "", api.ErrOccurs},
		{"P 0 0", "P Int L Int", "", api.ErrMismatch},
		{"P 0 0", "P Int T", "", api.ErrMismatch},
		{"Q 0 0 1", "Q L 1 L Int T", "", api.ErrMismatch},
		{"Q 0 1 L 0", "Q L Int Int 0", "", api.ErrMismatch}, // List (List Int) and List Int, of which one is part of the other one
	} {
		s, err := Unify(typeOf(c.a), typeOf(c.b))
		if err != c.err || err != api.OK && len(s) > 0 {
			t.Errorf("Unify(%s, %s) = %s, %d; want %d", c.a, c.b, writeAll(s), err, c.err)
		}
		if err == api.OK && (renamed(applied(writeAll(s), c.a)) != c.want || applied(writeAll(s), c.a) != applied(writeAll(s), c.b)) {
			t.Errorf("Unify(%s, %s) = %s makes %s and %s", c.a, c.b, writeAll(s), applied(writeAll(s), c.a), applied(writeAll(s), c.b))
		}
	}
}

// P15.2: of two pairs that cannot be made equal, the first one decides.
func TestUnifyFirst(t *testing.T) {
	for _, c := range []struct {
		a, b string
		want api.Errno
	}{
		{"P 0 Int", "P L 0 L Int", api.ErrOccurs},
		{"P Int 0", "P L Int L 0", api.ErrMismatch},
		{"P 0 Int", "-> L 0 L Int", api.ErrMismatch},
		{"P L L 0 Int", "P L L L 0 T", api.ErrOccurs},
		{"P L L Int 0", "P L L T L 0", api.ErrMismatch},
		{"Q 0 0 1", "Q 1 L 1 Int", api.ErrOccurs},
		{"Q 0 Int 1", "Q 1 T L 0", api.ErrMismatch},
		{"Q 0 1 0", "Q Int L 1 T", api.ErrOccurs},
		{"Q 0 0 1", "Q Int T L 1", api.ErrMismatch},
		{"Q P 0 1 0 L 0", "Q P 1 Int L Int 0", api.ErrMismatch},
		{"Q P 0 1 0 0", "Q P 1 2 L 2 T", api.ErrOccurs},
		{"Q 0 P 0 T P 1 Int", "Q P 1 1 P P Int 2 T P L 1 T", api.ErrMismatch},
		{"Q 0 P 0 T P 1 Int", "Q P 1 1 P P 3 2 T P L 3 T", api.ErrOccurs},
	} {
		if s, err := Unify(typeOf(c.a), typeOf(c.b)); err != c.want || len(s) > 0 {
			t.Errorf("Unify(%s, %s) = %s, %d; want %d", c.a, c.b, writeAll(s), err, c.want)
		}
	}
}

// robinson unifies types in words: it looks for the first word that differs, puts
// the part of the one side in place of the variable of the other side, everywhere,
// and begins anew. It returns what has become of each of the variables vars.
func robinson(a, b string, vars []string) (string, api.Errno) {
	become := slices.Clone(vars)
	for {
		x, y := strings.Fields(a), strings.Fields(b)
		i := 0
		for i < len(x) && i < len(y) && x[i] == y[i] {
			i++
		}
		if i == len(x) && i == len(y) {
			break
		}
		v, part := x[i], partAt(y, i)
		if !isVar(v) {
			v, part = y[i], partAt(x, i)
		}
		if !isVar(v) {
			return "", api.ErrMismatch
		}
		if slices.Contains(strings.Fields(part), v) {
			return "", api.ErrOccurs
		}
		s := v + "=" + part
		a, b = applied(s, a), applied(s, b)
		for k := range become {
			become[k] = applied(s, become[k])
		}
	}
	out := ""
	for i, v := range vars {
		out = add(out, v, become[i])
	}
	return out, api.OK
}

// checkUnify compares Unify with robinson, and returns the error.
func checkUnify(t *testing.T, a, b string) api.Errno {
	t.Helper()
	vars := varsOf(a + " " + b)
	want, wantErr := robinson(a, b, vars)
	s, err := Unify(typeOf(a), typeOf(b))
	if err != wantErr || err != api.OK && len(s) > 0 {
		t.Fatalf("Unify(%s, %s) = %s, %d; want %d", a, b, writeAll(s), err, wantErr)
	}
	if err != api.OK {
		return err
	}
	got := writeAll(s)
	if !subst.Valid(s) || !subst.Idempotent(s) || applied(got, a) != applied(got, b) {
		t.Fatalf("Unify(%s, %s) = %s", a, b, got)
	}
	for _, assign := range s {
		for _, id := range append(types.Vars(assign.Type), assign.Id) {
			if !slices.Contains(idsOf(a+" "+b), id) {
				t.Fatalf("Unify(%s, %s) = %s has the variable %d", a, b, got, id)
			}
		}
	}
	// All of what the variables become: two most general unifiers differ only in
	// the names of variables.
	all := strings.Join(vars, " ")
	if renamed(applied(got, all)) != renamed(applied(want, all)) {
		t.Fatalf("Unify(%s, %s) = %s; want %s", a, b, got, want)
	}
	if _, found := subst.Factor(s, assigns(want), idsOf(all)); !found {
		t.Fatalf("%s does not factor through Unify(%s, %s) = %s", want, a, b, got)
	}
	return api.OK
}

// P15.2: Unify of all pairs of samples, also as parts of larger types.
func TestUnifyOfAll(t *testing.T) {
	count := map[api.Errno]int{}
	l := sampleTypes()
	for i, a := range l {
		for k, b := range l {
			count[checkUnify(t, a, b)]++
			count[checkUnify(t, a, apart(b))]++
			c, d := l[(i*5+k*3+1)%len(l)], l[(i*7+k*11+2)%len(l)]
			count[checkUnify(t, "P "+a+" "+c, "P "+b+" "+d)]++
			count[checkUnify(t, "Q 0 P 1 2 "+c, "Q "+a+" P "+b+" "+d+" 0")]++
		}
	}
	if count[api.OK] < 1000 || count[api.ErrMismatch] < 5000 || count[api.ErrOccurs] < 1000 {
		t.Errorf("only %v", count)
	}
}

// P15.2: Unify of all types with few nodes, in which parts come back often.
func TestUnifyOfSmall(t *testing.T) {
	count := map[api.Errno]int{}
	leaves := []string{"0", "1", "2", "Int"}
	var l []string
	for _, x := range leaves {
		for _, y := range []string{"0", "1", "Int", "L 0", "L 1", "L L 2"} {
			l = append(l, "P "+x+" "+y, "P L "+x+" "+y, "P P "+x+" "+y+" "+x)
		}
	}
	for _, a := range l {
		for _, b := range l {
			count[checkUnify(t, a, b)]++
			count[checkUnify(t, "P "+a+" 2", "P 2 "+b)]++
			count[checkUnify(t, "Q 2 2 0", "Q "+a+" "+b+" 1")]++
		}
	}
	if count[api.OK] < 1000 || count[api.ErrMismatch] < 1000 || count[api.ErrOccurs] < 1000 {
		t.Errorf("only %v", count)
	}
}

// P15.2: every unifier, whatever it is, factors through the one that is found; and
// if none is found, there is none.
func TestUnifyIsMostGeneral(t *testing.T) {
	var unifiers []string
	words := []string{"0", "1", "2", "Int", "L 1", "L Int", "P Int T", "-> 2 0"}
	for _, x := range words {
		for _, y := range words {
			for _, z := range words {
				unifiers = append(unifiers, "0="+x+";1="+y+";2="+z)
			}
		}
	}
	count := 0
	l := sampleTypes()
	for i, a := range l {
		for k := i % 3; k < len(l); k += 3 {
			b := l[k]
			s, err := Unify(typeOf(a), typeOf(b))
			for _, u := range unifiers {
				if applied(u, a) != applied(u, b) {
					continue
				}
				count++
				if err != api.OK {
					t.Fatalf("Unify(%s, %s) returns %d, but %s is a unifier", a, b, err, u)
				}
				if _, found := subst.Factor(s, assigns(u), idsOf(a+" "+b)); !found {
					t.Fatalf("%s does not factor through Unify(%s, %s) = %s", u, a, b, writeAll(s))
				}
			}
		}
	}
	if count < 5000 {
		t.Errorf("only %d unifiers", count)
	}
}

// doubled returns the type P with the pairs of P (the variable id) (the variable id)
// and the variable id + 1, and so on for count pairs.
func doubled(id, count int) (api.Type, api.Type) {
	left, right := types.Var(id), types.Var(id)
	for i := id; i < id+count; i++ {
		left = types.Con("P", left, types.Var(i+1))
		right = types.Con("P", right, types.Con("P", types.Var(i), types.Var(i)))
	}
	return left, right
}

// P0.1, P0.8: what the variables stand for can be far larger than the types; that an
// error is returned then takes a short time.
func TestUnifyOfDoubled(t *testing.T) {
	const count = 200
	a, b := doubled(0, count)
	c, d := doubled(1000, count)
	for _, x := range []struct {
		left, right api.Type
		want        api.Errno
	}{
		{types.Int(), types.Con("T"), api.ErrMismatch},
		{types.Var(count), types.Var(0), api.ErrOccurs},
		{types.Var(0), types.Var(count), api.ErrOccurs},
		{types.Var(count), types.Int(), api.ErrMismatch},
		{types.Con("P", types.Var(count), types.Int()), types.Con("P", types.Var(1000+count), types.Con("T")), api.ErrMismatch},
		{types.Con("P", types.Var(count), types.Var(0)), types.Con("P", types.Var(1000+count), types.Con("L", types.Var(1000))), api.ErrOccurs},
		{types.Con("P", types.Var(count), types.Var(0)), types.Con("P", types.Var(1000+count), types.Var(count)), api.ErrOccurs},
		{types.Con("Q", types.Var(0), types.Var(1000), types.Var(count)), types.Con("Q", types.Int(), types.Int(), types.Var(1000+count-1)), api.ErrMismatch},
	} {
		left := types.Con("Q", a, c, x.left)
		right := types.Con("Q", b, d, x.right)
		if s, err := Unify(left, right); err != x.want || len(s) > 0 {
			t.Errorf("Unify of doubled types with %s and %s = %d; want %d", write(x.left), write(x.right), err, x.want)
		}
	}
}

// P15.2: results that are larger than the types are complete.
func TestUnifyOfLarge(t *testing.T) {
	const count = 14
	a, b := doubled(0, count)
	c, d := doubled(1000, count)
	x, y := types.Con("Q", a, c, types.Var(count)), types.Con("Q", b, d, types.Var(1000+count))
	s, err := Unify(x, y)
	if err != api.OK || len(s) != 2*count+1 || !subst.Valid(s) || !subst.Idempotent(s) {
		t.Fatalf("Unify of doubled types = %d assignments, %d", len(s), err)
	}
	left, right := subst.Apply(s, x), subst.Apply(s, y)
	if !types.Equal(left, right) || len(types.Vars(left)) != 1 {
		t.Error("Unify of doubled types does not make them equal")
	}
	if got := types.Nodes(subst.Apply(s, types.Var(count))); got != 2<<count-1 {
		t.Errorf("the last variable has become a type with %d nodes", got)
	}
}

// P0.1: Unify also returns what would be too large to be written out: the types of
// the result share their parts.
func TestUnifyOfHuge(t *testing.T) {
	const count = 100
	a, b := doubled(0, count)
	s, err := Unify(a, b)
	if err != api.OK || len(s) != count {
		t.Fatalf("Unify of doubled types = %d assignments, %d", len(s), err)
	}
	for _, assign := range s {
		x, depth := assign.Type, 0
		for len(x.Args) > 0 {
			x, depth = x.Args[assign.Id%2], depth+1
		}
		if depth != assign.Id || !types.Equal(x, types.Var(0)) {
			t.Errorf("%d has become a type of the depth %d", assign.Id, depth)
		}
	}
}

// P0.8: wide types are unified in a short time.
func TestUnifyOfMany(t *testing.T) {
	const count = 20000
	x := wide(0, count, func(i int) api.Type { return types.Var(i) })
	y := wide(0, count, func(i int) api.Type { return types.Con("L", types.Var(2*count-i)) })
	s, err := Unify(x, y)
	if err != api.OK || len(s) != count {
		t.Fatalf("Unify of wide types = %d assignments, %d", len(s), err)
	}
	seen := map[int]bool{}
	for _, assign := range s {
		seen[assign.Id] = true
		if !types.Equal(assign.Type, types.Con("L", types.Var(2*count-assign.Id))) {
			t.Fatalf("%d has become %s", assign.Id, write(assign.Type))
		}
	}
	if len(seen) != count {
		t.Errorf("%d variables have a type", len(seen))
	}
	z := wide(0, count, func(i int) api.Type { return types.Var((i + 1) % count) })
	if s, err := Unify(x, z); err != api.OK || len(s) != count-1 {
		t.Errorf("Unify of a cycle of variables = %d assignments, %d", len(s), err)
	}
	if s, err := Unify(types.Con("P", x, types.Var(0)), types.Con("P", z, types.Con("L", types.Var(count-1)))); err != api.ErrOccurs || len(s) > 0 {
		t.Errorf("Unify of a cycle of variables, and a type with one of them = %d", err)
	}
}

// P15.2: the same type at several places, also of the same memory.
func TestUnifyOfShared(t *testing.T) {
	shared := typeOf("P 0 L 1")
	x := types.Con("P", shared, shared)
	if s, err := Unify(x, x); err != api.OK || len(s) > 0 {
		t.Errorf("Unify of a type with itself = %s, %d", writeAll(s), err)
	}
	s, err := Unify(x, types.Con("P", types.Var(2), typeOf("P Int 2")))
	if err != api.ErrMismatch || len(s) > 0 {
		t.Errorf("Unify = %s, %d", writeAll(s), err)
	}
	s, err = Unify(x, types.Con("P", types.Var(2), typeOf("P 2 3")))
	if err != api.ErrOccurs || len(s) > 0 {
		t.Errorf("Unify = %s, %d", writeAll(s), err)
	}
	s, err = Unify(x, types.Con("P", types.Var(2), typeOf("P Int 3")))
	if err != api.OK || applied(writeAll(s), "Q 0 2 3") != "Q Int P Int L 1 L 1" {
		t.Errorf("Unify = %s, %d", writeAll(s), err)
	}
}

package solve

import (
	"slices"
	"strings"
	"testing"

	"typedholes/api"
	"typedholes/subst"
	"typedholes/types"
)

// start shortens a long text for a message.
func start(s string) string { return s[:min(len(s), 200)] }

// check compares Solve with the model, and what it returns with what the chapter says
// of it. It returns the error.
func check(t *testing.T, system string) api.Errno {
	t.Helper()
	m, wantIndex, wantErr := solve(system)
	s, index, err := Solve(equations(system))
	got := writeAll(s)
	if index != wantIndex || err != wantErr || err != api.OK && len(s) > 0 {
		t.Fatalf("Solve(%s) = %s, %d, %d; want %d, %d", start(system), start(got), index, err, wantIndex, wantErr)
	}
	if err != api.OK {
		return err
	}
	if !subst.Valid(s) || !subst.Idempotent(s) {
		t.Fatalf("Solve(%s) = %s is not valid or not idempotent", start(system), start(got))
	}
	sides := sidesOf(system)
	for i := 0; i < len(sides); i += 2 {
		if applied(got, sides[i]) != applied(got, sides[i+1]) {
			t.Fatalf("Solve(%s) = %s does not solve %s ~ %s", start(system), start(got), sides[i], sides[i+1])
		}
	}
	vars := varsOf(system)
	for _, assign := range s {
		if !slices.Contains(idsOf(system), assign.Id) {
			t.Fatalf("Solve(%s) = %s assigns %d", start(system), start(got), assign.Id)
		}
		for _, v := range varsOf(write(assign.Type)) {
			if !slices.Contains(vars, v) {
				t.Fatalf("Solve(%s) = %s has the variable %s", start(system), start(got), v)
			}
		}
	}
	// All of what the variables become: two most general unifiers differ only in the
	// names of variables.
	all := strings.Join(vars, " ")
	if renamed(applied(got, all)) != renamed(m.form(all)) {
		t.Fatalf("Solve(%s) = %s makes %s; want %s", start(system), start(got), start(applied(got, all)), start(m.form(all)))
	}
	return api.OK
}

// turned writes a system with the sides of each equation exchanged.
func turned(system string) string {
	sides := sidesOf(system)
	for i := 0; i < len(sides); i += 2 {
		sides[i], sides[i+1] = sides[i+1], sides[i]
	}
	return systemOf(sides)
}

// P18.2: Solve of a few systems; want is what the variables, in the order of Vars,
// become, where their variables are numbered anew.
func TestSolve(t *testing.T) {
	for _, c := range []struct {
		system string
		index  int
		err    api.Errno
		want   string
	}{
		{"", 0, api.OK, ""},
		{"0 ~ L 1 | 1 ~ 0", 1, api.ErrOccurs, ""}, // the chapter's example
		{"0 ~ 0", 1, api.OK, "0"}, {"Int ~ Int", 1, api.OK, ""}, {"Int ~ T", 0, api.ErrMismatch, ""}, {"0 ~ Int", 1, api.OK, "Int"}, {"Int ~ 0", 1, api.OK, "Int"},
		{"0 ~ 1", 1, api.OK, "0 0"}, {"1 ~ 0", 1, api.OK, "0 0"}, {"0 ~ 1 | 1 ~ 0", 2, api.OK, "0 0"}, {"0 ~ 1 | 1 ~ 2 | 2 ~ 0", 3, api.OK, "0 0 0"}, {"0 ~ 1 | 2 ~ 3 | 1 ~ 2", 3, api.OK, "0 0 0 0"},
		{"0 ~ 1 | 2 ~ 3 | 1 ~ 2 | 3 ~ L 4", 4, api.OK, "L 0 L 0 L 0 L 0 0"}, {"0 ~ 1 | 2 ~ 3 | 1 ~ 2 | 3 ~ L 0", 3, api.ErrOccurs, ""},
		{"0 ~ Int | 0 ~ Int", 2, api.OK, "Int"}, {"0 ~ Int | 0 ~ L 1", 1, api.ErrMismatch, ""}, {"0 ~ L 1 | 1 ~ Int | 0 ~ L 2", 3, api.OK, "L Int Int Int"}, {"0 ~ L 1 | 2 ~ L 0 | 1 ~ Int", 3, api.OK, "L Int Int L L Int"},
		{"-> 0 1 ~ -> 1 L 2 | 2 ~ 2", 2, api.OK, "L 0 L 0 0"}, {"P 0 1 ~ P 2 2 | 0 ~ Int | 1 ~ T", 2, api.ErrMismatch, ""}, {"P 0 1 ~ P 2 3 | 0 ~ Int | 1 ~ T", 3, api.OK, "Int T Int T"},
		{"0 ~ L 0", 0, api.ErrOccurs, ""}, {"L 0 ~ 0", 0, api.ErrOccurs, ""}, {"0 ~ L 1 | 1 ~ L 2 | 2 ~ L 0", 2, api.ErrOccurs, ""}, {"2 ~ L 0 | 1 ~ L 2 | 0 ~ L 1", 2, api.ErrOccurs, ""},
		{"0 ~ b0 | 1 ~ b1 | 2 ~ b0 | 0 ~ 2", 4, api.OK, "b0 b1 b0"}, {"0 ~ b0 | 1 ~ b1 | 2 ~ b0 | 1 ~ 2", 3, api.ErrMismatch, ""}, {"0 ~ r1.0 | 0 ~ r1.0", 2, api.OK, "r1.0"},
		{"0 ~ r1.0 | 0 ~ r0.0", 1, api.ErrMismatch, ""}, {"0 ~ r1.0 | 0 ~ r1.1", 1, api.ErrMismatch, ""}, {"0 ~ a | 0 ~ a", 2, api.OK, "a"}, {"0 ~ a | 0 ~ c", 1, api.ErrMismatch, ""}, {"0 ~ b0 | 0 ~ r0.0", 1, api.ErrMismatch, ""},
		{"0 ~ L 1 | 0 ~ L/0", 1, api.ErrMismatch, ""}, {"1000000 ~ 0 | 0 ~ P 1 1 | 1 ~ Int", 3, api.OK, "P Int Int P Int Int Int"},
		{"Int ~ Int | T ~ T | Int ~ T | 0 ~ L 0", 2, api.ErrMismatch, ""}, {"Int ~ Int | T ~ T | 0 ~ L 0 | Int ~ T", 2, api.ErrOccurs, ""},
		{"0 ~ P 1 2 | 0 ~ P 2 L 1", 1, api.ErrOccurs, ""}, {"0 ~ P 1 2 | 0 ~ P 2 L 3", 2, api.OK, "P L 0 L 0 L 0 L 0 0"}, {"0 ~ P 1 2 | 0 ~ P L 2 Int | 1 ~ L T", 2, api.ErrMismatch, ""},
	} {
		for _, system := range []string{c.system, turned(c.system)} {
			s, index, err := Solve(equations(system))
			if index != c.index || err != c.err || err != api.OK && len(s) > 0 {
				t.Errorf("Solve(%s) = %s, %d, %d; want %d, %d", system, writeAll(s), index, err, c.index, c.err)
			}
			check(t, system)
			all := strings.Join(varsOf(c.system), " ")
			if got := renamed(applied(writeAll(s), all)); err == api.OK && got != c.want {
				t.Errorf("Solve(%s) = %s makes %s; want %s", system, writeAll(s), got, c.want)
			}
		}
	}
}

// P18.2: of two errors in one equation the first one decides, whatever comes later.
func TestSolveFirst(t *testing.T) {
	for _, c := range []struct {
		system string
		index  int
		err    api.Errno
	}{
		{"P 0 Int ~ P L 0 T", 0, api.ErrOccurs}, {"P Int 0 ~ P T L 0", 0, api.ErrMismatch}, {"2 ~ 0 | P 0 Int ~ P L 2 T", 1, api.ErrOccurs}, {"2 ~ Int | P 2 0 ~ P T L 0", 1, api.ErrMismatch},
		{"0 ~ P 1 2 | 0 ~ P L 1 L 2 | Int ~ T", 1, api.ErrOccurs}, {"0 ~ P Int 2 | 0 ~ P T L 2 | 1 ~ L 1", 1, api.ErrMismatch}, {"0 ~ P 2 Int | 0 ~ P L 2 T | 1 ~ L 1", 1, api.ErrOccurs},
		{"Q 0 1 0 ~ Q Int T T", 0, api.ErrMismatch}, {"Q 0 1 0 ~ Q Int L 1 T", 0, api.ErrOccurs}, {"0 ~ 1 | 1 ~ 2 | -> 0 2 ~ -> L 1 Int", 2, api.ErrOccurs},
	} {
		if s, index, err := Solve(equations(c.system)); index != c.index || err != c.err || len(s) > 0 {
			t.Errorf("Solve(%s) = %s, %d, %d; want %d, %d", c.system, writeAll(s), index, err, c.index, c.err)
		}
		check(t, c.system)
	}
}

// P18.2, P18.4: Solve of all lists of one, two or three samples, and some longer ones.
func TestSolveOfAll(t *testing.T) {
	count := map[api.Errno]int{}
	l := sampleEquations()
	for i, e := range l {
		count[check(t, e)]++
		for k, f := range l {
			count[check(t, e+" | "+f)]++
			for m, g := range l {
				count[check(t, e+" | "+f+" | "+g)]++
				if (i+k+m)%7 == 0 {
					count[check(t, e+" | "+f+" | "+g+" | "+l[(i*5+k*3+m)%len(l)]+" | "+l[(i*2+k+m*11)%len(l)])]++
				}
			}
		}
	}
	if count[api.OK] < 5000 || count[api.ErrMismatch] < 5000 || count[api.ErrOccurs] < 5000 {
		t.Errorf("only %v", count)
	}
}

// randomType returns the words of a type with some of the first vars type variables.
func randomType(c *chance, depth, vars int) string {
	if depth == 0 || c.below(3) == 0 {
		if n := c.below(vars + 2); n < vars {
			return sampleVar(n)
		}
		return []string{"Int", "T", "b0", "r0.1"}[c.below(4)]
	}
	word := []string{"L", "->", "P", "P", "Q"}[c.below(5)]
	for range arity(word) {
		word += " " + randomType(c, depth-1, vars)
	}
	return word
}

// sampleVar writes a type variable; the numbers do not ascend.
func sampleVar(n int) string {
	return []string{"7", "3", "0", "12", "1", "1000000", "2", "70", "5", "31", "4", "6"}[n]
}

// P18.2, P18.4: Solve of random systems.
func TestSolveOfRandom(t *testing.T) {
	c := chance(18)
	count := map[api.Errno]int{}
	for i := range 20000 {
		var sides []string
		depth, vars := 1+i%3, 3+c.below(10)
		for range 1 + c.below(6) {
			left := sampleVar(c.below(vars))
			if c.below(2) == 0 {
				left = randomType(&c, depth, vars)
			}
			sides = append(sides, left, randomType(&c, depth, vars))
		}
		count[check(t, systemOf(sides))]++
		count[check(t, turned(systemOf(sides)))]++
	}
	if count[api.OK] < 2000 || count[api.ErrMismatch] < 2000 || count[api.ErrOccurs] < 2000 {
		t.Errorf("only %v", count)
	}
}

// growing returns a system in which types grow: each type variable but the first ones is
// made equal to a type of smaller ones, in some order.
func growing(c *chance, vars int) string {
	var l []string
	for v := 2; v < vars; v++ {
		right := "Q " + sampleVar(c.below(v)) + " L " + sampleVar(v-1) + " " + sampleVar(c.below(v))
		if c.below(3) == 0 {
			right = "L P " + sampleVar(v-1) + " " + sampleVar(v-2)
		}
		l = append(l, sampleVar(v)+" ~ "+right)
	}
	for i := range l {
		k := c.below(i + 1)
		l[i], l[k] = l[k], l[i]
	}
	if c.below(4) == 0 {
		l = append(l, sampleVar(c.below(vars))+" ~ "+sampleVar(c.below(vars)))
	}
	if c.below(4) == 0 {
		l = append(l, "L "+sampleVar(vars-1)+" ~ L "+sampleVar(vars-1))
	}
	return strings.Join(l, " | ")
}

// P18.2, P18.4: Solve of systems in which types grow up to the limit and beyond.
func TestSolveOfGrowing(t *testing.T) {
	c := chance(200)
	count := map[api.Errno]int{}
	for i := range 6000 {
		count[check(t, growing(&c, 5+i%8))]++
	}
	if count[api.OK] < 1000 || count[api.ErrLarge] < 1000 || count[api.ErrOccurs] < 20 {
		t.Errorf("only %v", count)
	}
}

// P18.2: what is too large, and when.
func TestSolveLarge(t *testing.T) {
	// The types that are named after their size.
	var100, int99, int199, var200, int200, int201 := repeated("L", 99, "1"), repeated("L", 98, "Int"), repeated("L", 198, "Int"), repeated("L", 199, "0"), repeated("L", 199, "Int"), repeated("L", 200, "Int")
	for _, c := range []struct {
		system string
		index  int
		err    api.Errno
	}{
		// A side.
		{int200 + " ~ " + int200, 1, api.OK}, {int201 + " ~ " + int201, 0, api.ErrLarge},
		{"0 ~ " + int200, 1, api.OK}, {"0 ~ " + int201, 0, api.ErrLarge},
		{"1 ~ " + var200, 1, api.OK}, {"1 ~ L " + var200, 0, api.ErrLarge}, {"0 ~ " + var200, 0, api.ErrOccurs}, {"0 ~ L " + var200, 0, api.ErrLarge},
		{"T ~ " + int200, 0, api.ErrMismatch}, {"T ~ " + int201, 0, api.ErrLarge}, {int201 + " ~ L " + int200, 0, api.ErrLarge}, {int201 + " ~ " + int200, 0, api.ErrLarge}, {int200 + " ~ " + int199, 0, api.ErrMismatch},
		{"P " + int99 + " " + var100 + " ~ 0", 1, api.OK}, {"P " + var100 + " " + var100 + " ~ 0", 0, api.ErrLarge}, {"Q " + int99 + " " + int99 + " 1 ~ 0", 1, api.OK}, {"Q " + int99 + " " + int99 + " L 1 ~ 0", 0, api.ErrLarge},
		// A side after the solution so far has been applied.
		{"0 ~ L 1 | L " + repeated("L", 197, "0") + " ~ 2", 2, api.OK}, {"0 ~ L 1 | " + repeated("L", 199, "0") + " ~ 2", 1, api.ErrLarge}, {"0 ~ L 1 | " + repeated("L", 199, "1") + " ~ 2", 2, api.OK},
		{"0 ~ L 1 | " + repeated("L", 198, "0") + " ~ T", 1, api.ErrMismatch}, {"0 ~ L 1 | " + repeated("L", 199, "0") + " ~ T", 1, api.ErrLarge}, {"0 ~ L 1 | " + repeated("L", 198, "0") + " ~ 1", 1, api.ErrOccurs}, {"0 ~ L 1 | " + repeated("L", 199, "0") + " ~ 1", 1, api.ErrLarge},
		{"0 ~ " + int200 + " | 0 ~ 0", 2, api.OK}, {"0 ~ " + int200 + " | L 0 ~ L 0", 1, api.ErrLarge}, {"0 ~ " + int200 + " | 1 ~ 2 | 0 ~ 1 | T ~ 2", 3, api.ErrMismatch}, {"0 ~ " + int200 + " | 1 ~ 2 | 0 ~ 1 | T ~ L 2", 3, api.ErrLarge},
		{"0 ~ " + int99 + " | 1 ~ P 0 0 | 2 ~ P 1 1", 2, api.ErrLarge}, {"0 ~ " + int99 + " | 1 ~ P 0 0 | 2 ~ 1", 3, api.OK}, {"0 ~ " + int99 + " | 1 ~ P 0 L 0 | L 1 ~ 2", 2, api.ErrLarge},
		// A type variable, afterwards.
		{"0 ~ " + repeated("L", 150, "1") + " | 1 ~ " + repeated("L", 49, "2"), 2, api.OK}, {"0 ~ " + repeated("L", 150, "1") + " | 1 ~ " + repeated("L", 50, "2"), 1, api.ErrLarge},
		{"0 ~ " + repeated("L", 150, "1") + " | P 1 Int ~ P " + repeated("L", 49, "2") + " T", 1, api.ErrMismatch}, {"0 ~ " + repeated("L", 150, "1") + " | P 1 Int ~ P " + repeated("L", 50, "2") + " T", 1, api.ErrMismatch},
		{"0 ~ " + repeated("L", 150, "1") + " | P 1 2 ~ P " + repeated("L", 50, "2") + " L 2", 1, api.ErrOccurs}, {"0 ~ " + repeated("L", 150, "1") + " | P 2 1 ~ P 3 " + repeated("L", 50, "2"), 1, api.ErrLarge},
		{"P 0 1 ~ P Q 1 1 Int " + int99, 1, api.OK}, {"P 0 1 ~ P Q 1 1 L Int " + int99, 0, api.ErrLarge}, {"P 1 0 ~ P " + int99 + " Q 1 1 Int", 1, api.OK}, {"P 1 0 ~ P " + int99 + " Q 1 1 L Int", 0, api.ErrLarge},
		{"0 ~ P 1 1 | 2 ~ P 0 T | 1 ~ " + int99, 2, api.ErrLarge}, {"0 ~ P 1 1 | 2 ~ P 1 T | 1 ~ " + int99, 3, api.OK}, {"0 ~ P 1 1 | 2 ~ P 1 T | 3 ~ 1 | 3 ~ " + int99, 4, api.OK}, {"0 ~ P 1 1 | 2 ~ L L 0 | 3 ~ 1 | 3 ~ " + int99, 3, api.ErrLarge},
		// The first equation decides.
		{"Int ~ T | 0 ~ " + int201, 0, api.ErrMismatch}, {"0 ~ " + int201 + " | Int ~ T", 0, api.ErrLarge}, {"Int ~ Int | 0 ~ 1 | 1 ~ " + int201 + " | Int ~ T", 2, api.ErrLarge}, {"0 ~ 1 | 1 ~ L 0 | 2 ~ " + int201, 1, api.ErrOccurs},
	} {
		for _, system := range []string{c.system, turned(c.system)} {
			if s, index, err := Solve(equations(system)); index != c.index || err != c.err || err != api.OK && len(s) > 0 {
				t.Errorf("Solve(%s) = %d, %d; want %d, %d", start(system), index, err, c.index, c.err)
			}
			check(t, system)
		}
	}
}

// P18.4: every unifier, whatever it is, factors through the solution that is found, by
// Principal, too; and if none is found, there is none, since nothing here is large.
func TestSolveIsMostGeneral(t *testing.T) {
	var unifiers []string
	words := []string{"0", "1", "2", "Int", "L 1", "L Int", "P Int Int", "-> 2 0"}
	for _, x := range words {
		for _, y := range words {
			for i, z := range words {
				unifiers = append(unifiers, "0="+x+";1="+y+";2="+z+";3="+words[(i*5+len(x)+len(y))%len(words)])
			}
		}
	}
	count := 0
	l := sampleEquations()
	for i, e := range l {
		for k := i % 2; k < len(l); k += 2 {
			system := e + " | " + l[k]
			if (i+k)%3 == 0 {
				system += " | " + l[(i*7+k*3+1)%len(l)]
			}
			s, _, err := Solve(equations(system))
			for _, u := range unifiers {
				if !solves(u, system) {
					continue
				}
				count++
				if err != api.OK {
					t.Fatalf("Solve(%s) returns %d, but %s solves it", system, err, u)
				}
				if !Principal(s, equations(system), assigns(u)) {
					t.Fatalf("%s does not factor through Solve(%s) = %s", u, system, writeAll(s))
				}
			}
		}
	}
	if count < 1500 {
		t.Errorf("only %d unifiers", count)
	}
}

// P18.2, P18.4: the equations behind the one with the error play no part, and those
// before it can be solved.
func TestSolveOfParts(t *testing.T) {
	c := chance(3)
	l := sampleEquations()
	count := 0
	for range 3000 {
		var some []string
		for range 8 {
			some = append(some, l[c.below(len(l))])
		}
		system := equations(strings.Join(some, " | "))
		_, index, err := Solve(system)
		for i := range len(system) + 1 {
			_, partIndex, partErr := Solve(system[:i])
			if i <= index && (partIndex != i || partErr != api.OK) || i > index && (partIndex != index || partErr != err) {
				t.Fatalf("Solve of %s = %d, %d; of the first %d equations %d, %d", strings.Join(some, " | "), index, err, i, partIndex, partErr)
			}
		}
		if err != api.OK && index > 1 {
			count++
		}
	}
	if count < 500 {
		t.Errorf("only %d errors behind other equations", count)
	}
}

// P18.4: what the variables are called plays no part.
func TestSolveOfRenamed(t *testing.T) {
	c := chance(44)
	names := assigns("0=3;1=1000000;2=0;3=1;1000000=2")
	l := sampleEquations()
	for range 3000 {
		var some []string
		for range 4 {
			some = append(some, l[c.below(len(l))])
		}
		system := equations(strings.Join(some, " | "))
		var other []api.Equation
		for _, e := range system {
			other = append(other, api.Equation{Left: types.Replace(e.Left, names), Right: types.Replace(e.Right, names)})
		}
		_, index, err := Solve(system)
		if _, otherIndex, otherErr := Solve(other); otherIndex != index || otherErr != err {
			t.Fatalf("Solve of %s = %d, %d; with other names %d, %d", strings.Join(some, " | "), index, err, otherIndex, otherErr)
		}
	}
}

package lattice

import (
	"strconv"
	"strings"
	"testing"

	"typedholes/api"
	"typedholes/types"
)

// P15.3: Common of a few types.
func TestCommon(t *testing.T) {
	for _, c := range []struct{ a, b, want, left, right string }{
		{"Int", "Int", "Int", "", ""},
		{"Int", "T", "0", "0=Int", "0=T"},
		{"-> Int Int", "-> L Int L Int", "-> 0 0", "0=Int", "0=L Int"}, // the chapter's example
		{"-> Int T", "-> L Int L T", "-> 0 1", "0=Int;1=T", "0=L Int;1=L T"},
		{"-> Int T", "-> L Int L Int", "-> 0 1", "0=Int;1=T", "0=L Int;1=L Int"},
		{"-> Int Int", "-> L Int L T", "-> 0 1", "0=Int;1=Int", "0=L Int;1=L T"},
		{"0", "0", "0", "0=0", "0=0"}, // a pair of equal type variables is a pair
		{"7", "7", "0", "0=7", "0=7"},
		{"P 7 7", "P 7 7", "P 0 0", "0=7", "0=7"},
		{"P 7 Int", "P 7 T", "P 0 1", "0=7;1=Int", "0=7;1=T"},
		{"P 0 1", "P 1 0", "P 0 1", "0=0;1=1", "0=1;1=0"},
		{"P 1 0", "P 1 0", "P 0 1", "0=1;1=0", "0=1;1=0"},
		{"-> 0 0", "-> 0 1", "-> 0 1", "0=0;1=0", "0=0;1=1"},
		{"0", "Int", "0", "0=0", "0=Int"}, {"Int", "0", "0", "0=Int", "0=0"},
		{"b1", "b1", "b1", "", ""}, {"b0", "b1", "0", "0=b0", "0=b1"},
		{"r1.2", "r1.2", "r1.2", "", ""}, {"r1.2", "r0.2", "0", "0=r1.2", "0=r0.2"}, {"r1.2", "r1.3", "0", "0=r1.2", "0=r1.3"},
		{"a", "a", "a", "", ""}, {"a", "c", "0", "0=a", "0=c"},
		{"b0", "r0.0", "0", "0=b0", "0=r0.0"}, {"0", "b0", "0", "0=0", "0=b0"},
		{"P 0 1", "-> 0 1", "0", "0=P 0 1", "0=-> 0 1"},
		{"L L Int", "L Int", "L 0", "0=L Int", "0=Int"},
		{"P Int L 2", "P Int 2", "P Int 0", "0=L 2", "0=2"},
		{"Q 5 L 6 Int", "Q T L T Int", "Q 0 L 1 Int", "0=5;1=6", "0=T;1=T"},
		{"Q Int P T Int T", "Q T P Int T Int", "Q 0 P 1 0 1", "0=Int;1=T", "0=T;1=Int"},
		{"Q Int L Int P Int L Int", "Q T L T P T L L T", "Q 0 L 0 P 0 L 1", "0=Int;1=Int", "0=T;1=L T"},
		{"-> b0 -> r0.1 a", "-> b0 -> r0.1 a", "-> b0 -> r0.1 a", "", ""},
	} {
		x, left, right := Common(typeOf(c.a), typeOf(c.b))
		if write(x) != c.want || writeAll(left) != c.left || writeAll(right) != c.right {
			t.Errorf("Common(%s, %s) = %s, %s, %s; want %s, %s, %s", c.a, c.b, write(x), writeAll(left), writeAll(right), c.want, c.left, c.right)
		}
	}
}

// sameStart reports whether a type variable is too general for two parts.
func sameStart(a, b api.Type) bool {
	switch a.Kind {
	case api.TypeCon:
		return b.Kind == api.TypeCon && a.Name == b.Name && len(a.Args) == len(b.Args)
	case api.TypeVar:
		return false
	}
	return types.Equal(a, b)
}

// checkCommon checks that Common returns what makes both types of one, and that no
// variable of it could be anything more special. That leaves one result alone.
func checkCommon(t *testing.T, a, b string) int {
	t.Helper()
	x, left, right := Common(typeOf(a), typeOf(b))
	words, l, r := write(x), writeAll(left), writeAll(right)
	if applied(l, words) != a || applied(r, words) != b {
		t.Fatalf("Common(%s, %s) = %s, %s, %s", a, b, words, l, r)
	}
	vars := varsOf(words)
	if len(left) != len(vars) || len(right) != len(vars) {
		t.Fatalf("Common(%s, %s) = %s, %s, %s with %d variables", a, b, words, l, r, len(vars))
	}
	pairs := map[string]bool{}
	for i, v := range vars {
		if v != strconv.Itoa(i) || left[i].Id != i || right[i].Id != i {
			t.Fatalf("Common(%s, %s) = %s, %s, %s is not numbered in order", a, b, words, l, r)
		}
		if sameStart(left[i].Type, right[i].Type) {
			t.Fatalf("Common(%s, %s) = %s has the variable %d in place of something more special", a, b, words, i)
		}
		pairs[write(left[i].Type)+"; "+write(right[i].Type)] = true
	}
	if len(pairs) != len(vars) {
		t.Fatalf("Common(%s, %s) = %s, %s, %s has two variables for one pair", a, b, words, l, r)
	}
	return len(vars)
}

// P15.3: Common of all pairs of samples, also as parts of larger types.
func TestCommonOfAll(t *testing.T) {
	count := map[int]int{}
	l := sampleTypes()
	for i, a := range l {
		for k, b := range l {
			count[checkCommon(t, a, b)]++
			c, d := l[(i*5+k*3+1)%len(l)], l[(i*7+k*11+2)%len(l)]
			count[checkCommon(t, "P "+a+" "+c, "P "+b+" "+d)]++
			count[checkCommon(t, "Q "+a+" P "+c+" "+a+" L "+b, "Q "+b+" P "+d+" "+b+" L "+a)]++
		}
	}
	if count[0] < 10 || count[1] < 500 || count[2] < 500 || count[3] < 500 || count[4] < 100 {
		t.Errorf("only %v", count)
	}
}

// P15.3: the same pair is found again behind many others.
func TestCommonOfMany(t *testing.T) {
	const count = 3000
	x := wide(0, count, func(i int) api.Type { return types.Con("L", types.Var(i)) })
	y := wide(0, count, func(i int) api.Type { return types.Con("L", types.Var(i/2)) })
	got, left, right := Common(types.Con("P", x, x), types.Con("P", y, y))
	want := wide(0, count, func(i int) api.Type { return types.Con("L", types.Var(i)) })
	if !types.Equal(got, types.Con("P", want, want)) || len(left) != count || len(right) != count {
		t.Fatalf("Common of wide types has %d and %d assignments", len(left), len(right))
	}
	for i := range count {
		if left[i].Id != i || write(left[i].Type) != strconv.Itoa(i) || right[i].Id != i || write(right[i].Type) != strconv.Itoa(i/2) {
			t.Fatalf("the assignments %d are %+v and %+v", i, left[i], right[i])
		}
	}
}

// P15.5: Leq is reflexive and transitive.
func TestLeqIsAnOrder(t *testing.T) {
	l := sampleTypes()
	below := make([][]bool, len(l))
	for i, a := range l {
		for _, b := range l {
			below[i] = append(below[i], Leq(typeOf(a), typeOf(b)))
		}
	}
	for i := range l {
		if !below[i][i] {
			t.Errorf("%s is not below itself", l[i])
		}
		for k := range l {
			for m := range l {
				if below[i][k] && below[k][m] && !below[i][m] {
					t.Fatalf("%s, %s, %s", l[i], l[k], l[m])
				}
			}
		}
	}
}

// P15.5: a type is below two types exactly if it is below what Unify makes of both
// when their variables are made disjoint.
func TestUnifyIsGreatest(t *testing.T) {
	count := map[bool]int{}
	l := append(sampleTypes(), "P L Int -> Int L T", "-> -> Int T -> L Int L T", "Q Int L Int P Int Int", "Q Int Int T", "Q L T Int Int")
	for _, a := range l {
		for _, b := range l {
			other := apart(b)
			s, err := Unify(typeOf(a), typeOf(other))
			greatest := typeOf(applied(writeAll(s), a))
			for _, c := range l {
				x := typeOf(c)
				want := Leq(x, typeOf(a)) && Leq(x, typeOf(b))
				if got := err == api.OK && Leq(x, greatest); got != want {
					t.Fatalf("%s is below %s and %s: %v; Unify = %s, %d", c, a, b, want, writeAll(s), err)
				}
				count[want]++
			}
		}
	}
	if count[true] < 2000 || count[false] < 2000 {
		t.Errorf("only %v", count)
	}
}

// P15.5: a type is above two types exactly if it is above what Common makes of both.
func TestCommonIsLeast(t *testing.T) {
	count := map[bool]int{}
	l := sampleTypes()
	for _, a := range l {
		for _, b := range l {
			least, _, _ := Common(typeOf(a), typeOf(b))
			for _, c := range l {
				x := typeOf(c)
				want := Leq(typeOf(a), x) && Leq(typeOf(b), x)
				if got := Leq(least, x); got != want {
					t.Fatalf("%s is above %s and %s: %v; Common = %s", c, a, b, want, write(least))
				}
				count[want]++
			}
		}
	}
	if count[true] < 2000 || count[false] < 2000 {
		t.Errorf("only %v", count)
	}
}

// P15.3: Common does not depend on the order of the types, up to what the
// substitutions are called.
func TestCommonOfTurned(t *testing.T) {
	l := sampleTypes()
	for _, a := range l {
		for _, b := range l {
			x, left, right := Common(typeOf(a), typeOf(b))
			y, turnedRight, turnedLeft := Common(typeOf(b), typeOf(a))
			first := strings.Join([]string{write(x), writeAll(left), writeAll(right)}, "\n")
			if second := strings.Join([]string{write(y), writeAll(turnedLeft), writeAll(turnedRight)}, "\n"); first != second {
				t.Fatalf("Common of %s and %s:\n%s\nand the other way round:\n%s", a, b, first, second)
			}
		}
	}
}

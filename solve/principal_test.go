package solve

import (
	"slices"
	"strings"
	"testing"

	"typedholes/api"
	"typedholes/types"
)

// solves is the tests' second way to find out whether a substitution makes the sides of
// each equation equal: words are replaced.
func solves(s, system string) bool {
	sides := sidesOf(system)
	for i := 0; i < len(sides); i += 2 {
		if applied(s, sides[i]) != applied(s, sides[i+1]) {
			return false
		}
	}
	return true
}

// factors is the tests' second way to find out whether other arises from s by a further
// substitution: what this gives each variable is read from the place where it occurs
// first, and then all of it is tried.
func factors(s, system, other string) bool {
	vars := varsOf(system)
	r := ""
	for _, v := range vars {
		from, to := strings.Fields(applied(s, v)), strings.Fields(applied(other, v))
		at := 0
		for _, word := range from {
			if at >= len(to) {
				return false
			}
			end := at + 1
			if isVar(word) {
				end = endOf(to, at)
				if _, found := given(r, word); !found {
					r = add(r, word, strings.Join(to[at:end], " "))
				}
			}
			at = end
		}
	}
	for _, v := range vars {
		if applied(r, applied(s, v)) != applied(other, v) {
			return false
		}
	}
	return true
}

// P18.1: Unifies of a few systems.
func TestUnifies(t *testing.T) {
	for _, c := range []struct {
		s, system string
		want      bool
	}{
		{"", "", true}, {"0=Int", "", true}, {"", "Int ~ Int", true}, {"", "Int ~ T", false}, {"", "0 ~ 0", true}, {"", "0 ~ 1", false}, {"", "0 ~ Int", false},
		{"0=Int", "0 ~ Int", true}, {"0=Int", "Int ~ 0", true}, {"0=T", "0 ~ Int", false}, {"0=1", "0 ~ 1", true}, {"1=0", "0 ~ 1", true}, {"0=1;1=0", "0 ~ 1", false}, {"0=2;1=2", "0 ~ 1", true},
		{"0=L 1", "0 ~ L 1", true}, {"0=L 1", "L 1 ~ 0", true}, {"0=L 1;1=Int", "0 ~ L 1", false}, // all is replaced at once
		{"0=L Int;1=Int", "0 ~ L 1", true}, {"0=L 0", "0 ~ L 0", false}, {"0=Int;1=Int", "0 ~ 1 | 1 ~ Int", true},
		{"0=Int", "0 ~ Int | 1 ~ 1 | 0 ~ T", false}, {"0=Int", "0 ~ T | 0 ~ Int", false}, {"0=Int", "0 ~ Int | 0 ~ T | 0 ~ Int", false}, {"0=Int", "0 ~ Int | 1 ~ 1 | 0 ~ 0", true},
		{"0=Int;1=T", "P 0 1 ~ P Int T", true}, {"0=Int;1=T", "P 0 1 ~ P T Int", false}, {"0=Int;1=T", "P 0 1 ~ -> Int T", false}, {"", "b0 ~ b0", true}, {"", "b0 ~ b1", false}, {"0=r1.0", "0 ~ r1.0", true}, {"0=r1.0", "0 ~ r0.0", false}, {"0=a", "a ~ 0", true}, {"0=L/0", "0 ~ L/0", true}, {"0=L/0", "0 ~ L 1", false},
		{"1000000=0", "L 1000000 ~ L 0", true},
	} {
		if got := Unifies(assigns(c.s), equations(c.system)); got != c.want {
			t.Errorf("Unifies(%s, %s) is %v", c.s, c.system, got)
		}
	}
}

// P18.1: Unifies of all pairs of samples.
func TestUnifiesOfAll(t *testing.T) {
	count := map[bool]int{}
	try := func(s, system string) {
		want := solves(s, system)
		if got := Unifies(assigns(s), equations(system)); got != want {
			t.Fatalf("Unifies(%s, %s) is %v", s, system, got)
		}
		count[want]++
	}
	l := sampleEquations()
	for _, s := range sampleAssigns() {
		for _, e := range l {
			try(s, e)
			for _, f := range l {
				try(s, e+" | "+f)
			}
		}
		for _, a := range sampleTypes() {
			for _, b := range sampleTypes() {
				try(s, a+" ~ "+b)
			}
		}
	}
	if count[true] < 2000 || count[false] < 2000 {
		t.Errorf("only %v", count)
	}
}

// P18.1, P18.3: MaxType plays no part in Unifies and Principal.
func TestPrincipalOfLarge(t *testing.T) {
	system := repeated("L", 500, "0") + " ~ " + repeated("L", 300, "1")
	s, special := "1="+repeated("L", 200, "0"), "0=Int;1="+repeated("L", 200, "Int")
	if !Unifies(assigns(s), equations(system)) || Unifies(assigns(s), equations("L "+system)) || Unifies(assigns(s+";0=Int"), equations(system)) {
		t.Error("Unifies of large types")
	}
	if !Principal(assigns(s), equations(system), assigns(special)) || Principal(assigns(special), equations(system), assigns(s)) || Principal(assigns(s), equations("L "+system), assigns(special)) {
		t.Error("Principal of large types")
	}
}

// P18.3: Principal of a few systems.
func TestPrincipal(t *testing.T) {
	for _, c := range []struct {
		s, system, other string
		want             bool
	}{
		{"", "", "", true}, {"", "", "0=Int", true}, {"0=Int", "", "", true}, {"0=Int", "0 ~ 0", "", false}, // without equations there are no variables
		{"", "0 ~ 0", "0=Int", true}, {"", "Int ~ T", "", false}, {"", "0 ~ 1", "0=Int;1=Int", false}, {"0=1", "0 ~ 1", "", false},
		{"0=1", "0 ~ 1", "0=1", true}, {"0=1", "0 ~ 1", "1=0", true}, {"1=0", "0 ~ 1", "0=1", true}, {"0=1", "0 ~ 1", "0=Int;1=Int", true}, {"0=Int;1=Int", "0 ~ 1", "0=1", false},
		{"0=9;1=9", "0 ~ 1", "0=1", true}, {"0=1", "0 ~ 1", "0=9;1=9", true}, {"0=L 2;1=L 2", "0 ~ 1", "0=1", false}, {"0=1", "0 ~ 1", "0=L 2;1=L 2", true}, {"0=L 2;1=L 2", "0 ~ 1", "0=L Int;1=L Int", true}, {"0=L 2;1=L 2", "0 ~ 1", "0=T;1=T", false},
		{"0=L 1", "0 ~ L 1", "0=L Int;1=Int", true}, {"0=L 1", "0 ~ L 1", "0=L Int", false}, {"0=L Int;1=Int", "0 ~ L 1", "0=L 1", false}, {"0=L Int;1=Int", "0 ~ L 1", "0=L Int;1=Int", true}, {"0=L Int;1=Int", "0 ~ L 1", "0=L T;1=T", false},
		{"0=1;2=3", "0 ~ 1 | 2 ~ 3", "0=3;1=3;2=3", true}, {"0=3;1=3;2=3", "0 ~ 1 | 2 ~ 3", "0=1;2=3", false}, {"0=1;2=3", "0 ~ 1 | 2 ~ 3", "0=3;1=3;2=1;3=1", true},
		{"0=1;5=Int", "0 ~ 1", "0=1;5=T", true}, {"0=1;5=Int", "0 ~ 1 | 5 ~ 5", "0=1;5=T", false}, // other variables than those of the system play no part
		{"0=1", "0 ~ 1 | Int ~ Int", "0=1;1=1", true}, {"0=1", "0 ~ 1 | 1 ~ Int", "0=Int;1=Int", false}, {"0=Int;1=Int", "0 ~ 1 | 1 ~ Int", "0=1", false},
	} {
		if got := Principal(assigns(c.s), equations(c.system), assigns(c.other)); got != c.want {
			t.Errorf("Principal(%s, %s, %s) is %v", c.s, c.system, c.other, got)
		}
	}
}

// P18.3: Principal of many samples, and of what Solve returns.
func TestPrincipalOfAll(t *testing.T) {
	count := map[string]int{}
	try := func(s, system, other string) {
		first, second := solves(s, system), solves(other, system)
		want := first && second && factors(s, system, other)
		if got := Principal(assigns(s), equations(system), assigns(other)); got != want {
			t.Fatalf("Principal(%s, %s, %s) is %v", s, system, other, got)
		}
		switch {
		case want:
			count["principal"]++
		case first && second:
			count["not principal"]++
		case first:
			count["other does not solve"]++
		case second:
			count["s does not solve"]++
		}
	}
	l := append(sampleEquations(), "", "0 ~ 1 | 1 ~ 2", "0 ~ 1 | 3 ~ 3", "1 ~ L 0 | 2 ~ 2", "P 0 1 ~ P 0 1 | Int ~ Int", "0 ~ 2 | 1 ~ 1 | 7 ~ 7", "P 1 2 ~ P 2 1 | 3 ~ 1")
	for _, system := range l {
		solution, _, _ := Solve(equations(system))
		all := append(sampleAssigns(), writeAll(solution))
		for _, s := range all {
			for _, other := range all {
				try(s, system, other)
			}
		}
	}
	for _, of := range []string{"principal", "not principal", "other does not solve", "s does not solve"} {
		if count[of] < 300 {
			t.Errorf("only %v", count)
		}
	}
}

// P18.1: Vars of a few systems, and that of pairs of samples.
func TestVars(t *testing.T) {
	for _, c := range []struct {
		system string
		want   []int
	}{
		{"", nil}, {"Int ~ T", nil}, {"b0 ~ r1.2 | a ~ Int", nil}, {"0 ~ 1", []int{0, 1}}, {"1 ~ 0", []int{1, 0}}, {"0 ~ 0 | 0 ~ 0", []int{0}},
		{"1 ~ 0 | 2 ~ 0 | 3 ~ 3", []int{1, 0, 2, 3}}, {"Int ~ 5 | 4 ~ Int", []int{5, 4}}, {"P 3 L 2 ~ -> 1 3 | 0 ~ Q 2 9 1", []int{3, 2, 1, 0, 9}}, {"L 1000000 ~ L L 0", []int{1000000, 0}},
	} {
		if got := Vars(equations(c.system)); !slices.Equal(got, c.want) {
			t.Errorf("Vars(%s) = %v; want %v", c.system, got, c.want)
		}
	}
	l := append(sampleEquations(), "9 ~ 8", "P 5 4 ~ P 4 3", "L 7 ~ Q 6 5 b1")
	for _, e := range l {
		for _, f := range l {
			if got, want := Vars(equations(e+" | "+f)), idsOf(e+" | "+f); !slices.Equal(got, want) {
				t.Fatalf("Vars(%s | %s) = %v; want %v", e, f, got, want)
			}
		}
	}
}

// P18.1: many variables.
func TestVarsOfMany(t *testing.T) {
	const count = 100000
	var l []api.Equation
	for i := range count {
		l = append(l, api.Equation{Left: types.Var(count - i), Right: types.Con("L", types.Var(count-i/2))})
	}
	got := Vars(l)
	if len(got) != count || got[0] != count || got[count-1] != 1 || !slices.IsSortedFunc(got, func(a, b int) int { return b - a }) {
		t.Errorf("Vars has %d variables", len(got))
	}
}

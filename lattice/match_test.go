package lattice

import (
	"math"
	"slices"
	"strings"
	"testing"

	"typedholes/api"
	"typedholes/types"
)

// writeMatch writes the results of Match; no stands for none.
func writeMatch(s []api.Assign, is bool) string {
	if !is {
		return "no" + writeAll(s)
	}
	return writeAll(s)
}

// P15.1: Match of a few types.
func TestMatch(t *testing.T) {
	for _, c := range []struct{ pattern, words, s, want string }{
		{"Int", "Int", "", ""},
		{"Int", "T", "", "no"}, {"Int", "0", "", "no"}, {"L Int", "L 0", "", "no"},
		{"0", "Int", "", "0=Int"},
		{"0", "0", "", "0=0"}, // what stays is assigned, too
		{"0", "L 0", "", "0=L 0"},
		{"0", "1", "", "0=1"},
		{"0", "b3", "", "0=b3"}, {"0", "r1.2", "", "0=r1.2"}, {"0", "a", "", "0=a"},
		{"-> 0 0", "-> 0 1", "", "no"},
		{"-> 0 0", "-> 1 1", "", "0=1"},
		{"-> 0 1", "-> 1 0", "", "0=1;1=0"},
		{"-> 1 0", "-> Int T", "", "1=Int;0=T"},
		{"-> 1 0", "P Int T", "", "no"},
		{"Q 3 1 2", "Q 1 2 3", "", "3=1;1=2;2=3"},
		{"Q 3 L 1 3", "Q T L 1 T", "", "3=T;1=1"},
		{"Q 3 L 1 3", "Q T L 1 Int", "", "no"},
		{"Q 3 L 1 3", "Q 3 L 1 1", "", "no"},
		{"P L 0 0", "P L L 0 L 0", "", "0=L 0"},
		{"P 0 L 0", "P L 0 0", "", "no"},
		{"b0", "b0", "", ""}, {"b0", "b1", "", "no"}, {"b0", "Int", "", "no"}, {"b0", "0", "", "no"},
		{"r1.2", "r1.2", "", ""}, {"r1.2", "r0.2", "", "no"}, {"r1.2", "r1.3", "", "no"}, {"r0.0", "0", "", "no"}, {"r0.0", "b0", "", "no"},
		{"a", "a", "", ""}, {"a", "c", "", "no"}, {"a", "0", "", "no"},
		{"-> P 0 1 0", "-> P Int 2 Int", "5=Int", "5=Int;0=Int;1=2"},
		{"Int", "Int", "1=T;0=Int", "1=T;0=Int"}, // also what does not occur stays in s
		{"Int", "T", "1=T;0=Int", "no"},
		{"-> 0 1", "-> Int Int", "1=0", "no"},
		{"-> 0 1", "-> Int 0", "1=0", "1=0;0=Int"}, // the types of s are not changed
		{"0", "0", "0=1", "no"}, {"0", "1", "0=1", "0=1"}, {"0", "1", "0=0", "no"},
		{"0", "Int", "0=1", "no"}, {"0", "Int", "0=1;1=Int", "no"},
		{"0", "L 1", "0=L 1;1=Int", "0=L 1;1=Int"},
		{"P 2 1", "P 1 2", "1=2", "1=2;2=1"},
		{"Q 9 8 7", "Q T T T", "8=T;10=Int", "8=T;10=Int;9=T;7=T"},
		{"Q 9 8 7", "Q T Int T", "8=T;10=Int", "no"},
		{"P 1000000 10", "P 10 1000000", "100=1;1=100", "100=1;1=100;1000000=10;10=1000000"},
	} {
		if got := writeMatch(Match(typeOf(c.pattern), typeOf(c.words), assigns(c.s))); got != c.want {
			t.Errorf("Match(%s, %s, %s) = %s; want %s", c.pattern, c.words, c.s, got, c.want)
		}
	}
}

// searchMatch looks for an extension of s among all those whose new types are parts
// of the type with these words: every match is one of them.
func searchMatch(pattern, words, s string) string {
	var missing []string
	for _, v := range varsOf(pattern) {
		if _, found := given(s, v); !found {
			missing = append(missing, v)
		}
	}
	all := partsOf(words)
	var choose func(s string, missing []string) string
	choose = func(s string, missing []string) string {
		if len(missing) == 0 {
			if applied(s, pattern) == words {
				return s
			}
			return "no"
		}
		for _, part := range all {
			if found := choose(add(s, missing[0], part), missing[1:]); found != "no" {
				return found
			}
		}
		return "no"
	}
	return choose(s, missing)
}

// P15.1: Match finds an extension exactly if there is one, and this.
func TestMatchOfAll(t *testing.T) {
	count := map[bool]int{}
	for i, pattern := range sampleTypes() {
		for k, words := range sampleTypes() {
			for m, s := range sampleAssigns() {
				if m > 0 && (i+k)%3 != m%3 {
					continue
				}
				want := searchMatch(pattern, words, s)
				if got := writeMatch(Match(typeOf(pattern), typeOf(words), assigns(s))); got != want {
					t.Fatalf("Match(%s, %s, %s) = %s; want %s", pattern, words, s, got, want)
				}
				count[want != "no"]++
			}
		}
	}
	if count[true] < 500 || count[false] < 500 {
		t.Errorf("only %v", count)
	}
}

// P15.1: what a substitution makes of a pattern is matched by its assignments.
func TestMatchOfApplied(t *testing.T) {
	count := 0
	for _, pattern := range sampleTypes() {
		for _, s := range sampleAssigns() {
			want := ""
			for _, v := range varsOf(pattern) {
				want = add(want, v, applied(s, v))
			}
			words := applied(s, pattern)
			if got := writeMatch(Match(typeOf(pattern), typeOf(words), nil)); got != want {
				t.Fatalf("Match(%s, %s) = %s; want %s", pattern, words, got, want)
			}
			for _, v := range varsOf(pattern) {
				if _, found := given(s, v); !found {
					s = add(s, v, v)
				}
			}
			if got := writeMatch(Match(typeOf(pattern), typeOf(words), assigns(s))); got != s {
				t.Fatalf("Match(%s, %s, %s) = %s", pattern, words, s, got)
			}
			count++
		}
	}
	if count < 1000 {
		t.Errorf("only %d types", count)
	}
}

// P15.1: an empty list of assignments is nil or not.
func TestMatchOfEmpty(t *testing.T) {
	for _, s := range [][]api.Assign{nil, {}} {
		if got := writeMatch(Match(typeOf("P 1 0"), typeOf("P Int 1"), s)); got != "1=Int;0=1" {
			t.Errorf("Match = %s", got)
		}
	}
	if _, is := Match(types.Con("T"), api.Type{Kind: api.TypeCon, Name: "T", Args: []api.Type{}}, nil); !is {
		t.Error("Match tells empty lists apart")
	}
}

// P15.1, P15.2, P15.3: constructors of one name with different numbers of arguments
// differ.
func TestArity(t *testing.T) {
	of := func(count int) api.Type {
		return types.Con("L", types.Con("C", slices.Repeat([]api.Type{types.Var(0)}, count)...))
	}
	for i := range 5 {
		for k := range 5 {
			if s, is := Match(of(i), of(k), nil); is != (i == k) || !is && len(s) > 0 {
				t.Errorf("Match(%+v, %+v) = %+v, %v", of(i), of(k), s, is)
			}
			if Leq(of(i), of(k)) != (i == k) || Variant(of(i), of(k)) != (i == k) {
				t.Errorf("Leq or Variant of %d and %d arguments", i, k)
			}
			if s, err := Unify(of(i), of(k)); (err == api.OK) != (i == k) || len(s) > 0 || i != k && err != api.ErrMismatch {
				t.Errorf("Unify(%+v, %+v) = %+v, %v", of(i), of(k), s, err)
			}
			want := types.Con("L", types.Var(0))
			if i == k {
				want = of(i)
			}
			if x, _, _ := Common(of(i), of(k)); !types.Equal(x, want) {
				t.Errorf("Common(%+v, %+v) = %+v", of(i), of(k), x)
			}
		}
	}
}

// P15.4: Leq and Variant of a few types.
func TestLeq(t *testing.T) {
	for _, c := range []struct {
		a, b    string
		leq     bool
		variant bool
	}{
		{"Int", "Int", true, true},
		{"Int", "0", true, false}, {"0", "Int", false, false},
		{"0", "1", true, true}, {"0", "0", true, true},
		{"L 0", "0", true, false}, {"0", "L 0", false, false}, // also if the variable is the same
		{"-> Int Int", "-> 0 1", true, false}, {"-> 0 1", "-> 0 0", false, false}, {"-> 0 0", "-> 0 1", true, false},
		{"-> 0 1", "-> 5 2", true, true}, {"-> 0 1", "-> 1 0", true, true},
		{"P 0 L 0", "P L 0 0", false, false}, {"P L 0 0", "P 0 L 0", false, false},
		{"P L 0 0", "P L 1 1", true, true},
		{"Q 0 1 0", "Q 1 0 1", true, true}, {"Q 0 1 0", "Q 1 1 0", false, false}, {"Q 0 0 0", "Q 1 0 1", true, false},
		{"b0", "b0", true, true}, {"b0", "b1", false, false}, {"b0", "0", true, false}, {"0", "b0", false, false},
		{"r0.1", "r0.1", true, true}, {"r0.1", "r1.1", false, false}, {"r0.1", "0", true, false}, {"0", "r0.0", false, false},
		{"a", "a", true, true}, {"a", "c", false, false}, {"a", "0", true, false},
		{"Int", "T", false, false}, {"P Int T", "-> Int T", false, false},
		{"-> b0 b1", "-> b0 b0", false, false}, {"-> b0 b0", "-> b0 b1", false, false},
	} {
		a, b := typeOf(c.a), typeOf(c.b)
		if Leq(a, b) != c.leq || Variant(a, b) != c.variant || Variant(b, a) != c.variant {
			t.Errorf("Leq(%s, %s) is %v, Variant %v and %v", c.a, c.b, Leq(a, b), Variant(a, b), Variant(b, a))
		}
	}
}

// P15.4: a type is below another one exactly if a substitution makes it of the other
// one, and types are variants exactly if only the numbers of variables differ.
func TestLeqOfAll(t *testing.T) {
	count := map[bool]int{}
	l := append(sampleTypes(), "P 3 2", "Q 5 5 4", "-> 100 10", "L 7")
	for _, a := range l {
		for _, b := range l {
			want := searchMatch(b, a, "") != "no"
			if got := Leq(typeOf(a), typeOf(b)); got != want {
				t.Fatalf("Leq(%s, %s) is %v", a, b, got)
			}
			same := renamed(a) == renamed(b)
			if got := Variant(typeOf(a), typeOf(b)); got != same {
				t.Fatalf("Variant(%s, %s) is %v", a, b, got)
			}
			count[want]++
			count[same]++
		}
	}
	if count[true] < 500 || count[false] < 500 {
		t.Errorf("only %v", count)
	}
}

// P0.8: wide types are matched in a short time.
func TestMatchOfMany(t *testing.T) {
	const count = 10000
	x := wide(0, count, func(i int) api.Type { return types.Var(count - i) })
	y := wide(0, count, func(i int) api.Type { return types.Con("L", types.Var(i)) })
	s, is := Match(types.Con("P", x, x), types.Con("P", y, y), []api.Assign{{Id: count + 1, Type: types.Int()}})
	if !is || len(s) != count+1 || s[0].Id != count+1 {
		t.Fatalf("Match returns %d assignments and %v", len(s), is)
	}
	for i, assign := range s[1:] {
		if assign.Id != count-i || !types.Equal(assign.Type, types.Con("L", types.Var(i))) {
			t.Fatalf("the assignment %d is %+v", i, assign)
		}
	}
	if z := wide(0, count, func(i int) api.Type { return types.Var(max(i, 1)) }); !Leq(z, x) || Leq(x, z) || !Variant(x, wide(0, count, types.Var)) {
		t.Error("Leq of wide types")
	}
}

// P0.1: no function panics for arguments that are not valid.
func TestAllArguments(t *testing.T) {
	l := append(strange(), deep(300, types.Var(0)), deep(300, types.Int()), types.Var(0), types.Var(1), typeOf("-> 0 1"), typeOf("L b0"), typeOf("P L 1 0"))
	ids := []int{0, 1, 0, -1, math.MinInt, math.MaxInt, 1000001, 1}
	for i, x := range l {
		for k, y := range l {
			var s []api.Assign
			for m, id := range ids {
				s = append(s, api.Assign{Id: id, Type: l[(i+k*m)%len(l)]})
			}
			for m := range s {
				for _, list := range [][]api.Assign{s[:m], s[m:]} {
					if out, is := Match(x, y, list); !is && len(out) > 0 {
						t.Errorf("%d, %d: Match returns %+v and %v", i, k, out, is)
					}
				}
			}
			if out, err := Unify(x, y); err != api.OK && (len(out) > 0 || err != api.ErrMismatch && err != api.ErrOccurs) {
				t.Errorf("%d, %d: Unify returns %+v and %v", i, k, out, err)
			}
			Common(x, y)
			Leq(x, y)
			Variant(x, y)
			nested := types.Con("P", x, types.Con("P", y, x))
			Unify(nested, types.Con("P", y, types.Con("P", x, types.Var(0))))
			Common(nested, types.Con("P", y, y))
		}
	}
}

// P0.4: no function changes its arguments, or the capacity behind them.
func TestArgumentsStay(t *testing.T) {
	l := sampleTypes()
	for i := range l {
		for _, words := range []string{l[i], l[(i*7+3)%len(l)], "Q -> 0 1 L 2 0"} {
			for k, written := range sampleAssigns() {
				a, b := spare(typeOf(l[i])), spare(typeOf(words))
				s := spareAssigns(assigns(written))
				seen := func() string { return strings.Join([]string{all(a), all(b), allAssigns(s)}, "\n") }
				before := seen()
				first, is := Match(a, b, s)
				firstWritten := writeAll(first)
				Match(b, a, s)
				Match(spare(typeOf("Q 8 9 10")), spare(typeOf("Q Int T T")), s)
				Unify(a, b)
				Common(a, b)
				Leq(a, b)
				Variant(a, b)
				if seen() != before {
					t.Fatalf("%d, %d: arguments have changed from\n%s to\n%s", i, k, before, seen())
				}
				if is && writeAll(first) != firstWritten {
					t.Fatalf("%d, %d: a result has changed from %s to %s", i, k, firstWritten, writeAll(first))
				}
			}
		}
	}
}

// P0.8: deep types are read to their ends.
func TestDeep(t *testing.T) {
	const depth = 65000
	x, y, z := deep(depth, types.Var(1)), deep(depth, types.Int()), deep(depth, types.Con("T"))
	if got := writeMatch(Match(x, y, nil)); got != "1=Int" {
		t.Errorf("Match of deep types = %s", got)
	}
	if got := writeMatch(Match(x, y, assigns("1=T"))); got != "no" {
		t.Errorf("Match of deep types = %s", got)
	}
	if !Leq(y, x) || Leq(x, y) || Leq(y, z) || !Variant(x, deep(depth, types.Var(7))) || Variant(x, y) {
		t.Error("Leq or Variant of deep types")
	}
	if s, err := Unify(x, y); err != api.OK || writeAll(s) != "1=Int" {
		t.Errorf("Unify of deep types = %s, %v", writeAll(s), err)
	}
	if s, err := Unify(y, z); err != api.ErrMismatch || len(s) > 0 {
		t.Errorf("Unify of different deep types = %s, %v", writeAll(s), err)
	}
	if s, err := Unify(types.Var(1), x); err != api.ErrOccurs || len(s) > 0 {
		t.Errorf("Unify of a deep type that contains the variable = %s, %v", writeAll(s), err)
	}
	if s, err := Unify(types.Var(0), x); err != api.OK || len(s) != 1 || !types.Equal(s[0].Type, x) {
		t.Errorf("Unify of a variable and a deep type returns %d assignments and %v", len(s), err)
	}
	got, left, right := Common(y, z)
	if !types.Equal(got, deep(depth, types.Var(0))) || writeAll(left) != "0=Int" || writeAll(right) != "0=T" {
		t.Errorf("Common of deep types has %s and %s", writeAll(left), writeAll(right))
	}
}

package subst

import (
	"slices"
	"strconv"
	"strings"
	"testing"

	"typedholes/api"
	"typedholes/types"
)

// P13.3: Factor of a few substitutions; no is written where there is none.
func TestFactor(t *testing.T) {
	for _, c := range []struct {
		a, b string
		ids  []int
		want string
	}{
		{"0=P 1 2", "0=P Int 1", []int{0}, "1=Int;2=1"},
		{"0=P 2 1", "0=P Int 1", []int{0}, "2=Int;1=1"},
		{"", "0=1;1=1", []int{0, 1}, "0=1;1=1"},
		{"", "0=1;1=1", []int{1, 0}, "1=1;0=1"},
		{"", "", []int{3, 1, 2}, "3=3;1=1;2=2"}, // what stays is assigned, too
		{"", "0=Int", nil, ""},
		{"0=Int", "0=T", nil, ""},
		{"0=Int", "0=T", []int{1}, "1=1"},
		{"0=Int", "0=T", []int{1, 0}, "no"},
		{"0=Int", "", []int{0}, "no"},
		{"", "0=Int", []int{0}, "0=Int"},
		{"0=1", "0=Int", []int{0}, "1=Int"},
		{"0=1", "0=Int", []int{0, 1}, "no"}, // 1 would have to stay, too
		{"0=1", "0=Int", []int{1, 0}, "no"},
		{"0=1", "0=Int;1=Int", []int{1, 0}, "1=Int"},
		{"0=1;1=0", "0=T;1=Int", []int{0, 1}, "1=T;0=Int"},
		{"0=L 1", "0=Int", []int{0}, "no"},
		{"0=P 1 1", "0=P Int Int", []int{0, 0}, "1=Int"},
		{"0=P 1 1", "0=P Int T", []int{0}, "no"},
		{"0=P 1 1", "0=P 1 Int", []int{0}, "no"},
		{"0=P 1 1", "0=P Int 1", []int{0}, "no"},
		{"0=P 1 2", "0=-> 1 2", []int{0}, "no"},
		{"0=P 1 Int", "0=P L T T", []int{0}, "no"},
		{"0=Int;1=2", "0=Int;1=L 2", []int{0, 1}, "2=L 2"},
		{"0=L 0", "0=L L 0", []int{0}, "0=L 0"},
		{"0=b0;1=r0.1;2=a", "0=b0;1=r0.1;2=a", []int{0, 1, 2}, ""},
		{"0=b0", "0=b1", []int{0}, "no"}, {"0=b0", "0=Int", []int{0}, "no"}, {"0=b0", "0=0", []int{0}, "no"}, {"0=b0", "0=r0.0", []int{0}, "no"},
		{"0=r0.1", "0=r1.1", []int{0}, "no"}, {"0=r0.1", "0=r0.2", []int{0}, "no"}, {"0=r0.1", "0=0", []int{0}, "no"},
		{"0=a", "0=c", []int{0}, "no"}, {"0=a", "0=0", []int{0}, "no"}, {"0=T", "0=0", []int{0}, "no"},
		{"0=Q 3 P 2 3 1;1=P 4 1", "0=Q T P L 9 T b0;1=P 3 b0", []int{0, 1}, "3=T;2=L 9;1=b0;4=3"},
		{"0=Q 3 P 2 3 1;1=P 4 1", "0=Q T P L 9 T b0;1=P 3 b0", []int{1, 0}, "4=3;1=b0;3=T;2=L 9"},
		{"0=Q 3 P 2 3 1;1=P 4 1", "0=Q T P L 9 T b0;1=P 3 b1", []int{0, 1}, "no"},
		{"0=10;1=1", "0=T;1=Int", []int{0, 1}, "10=T;1=Int"},
		{"1000000=999999", "1000000=T", []int{1000000}, "999999=T"},
	} {
		r, found := Factor(assigns(c.a), assigns(c.b), c.ids)
		if got := writeFactor(r, found); got != c.want {
			t.Errorf("Factor(%s, %s, %v) = %s; want %s", c.a, c.b, c.ids, got, c.want)
		}
	}
}

func writeFactor(r []api.Assign, found bool) string {
	if !found {
		return "no" + writeAll(r)
	}
	return writeAll(r)
}

// P13.3: constructors of one name with different numbers of arguments differ.
func TestFactorArity(t *testing.T) {
	one, two := types.Con("C", types.Var(1)), types.Con("C", types.Var(1), types.Var(2))
	for _, c := range []struct{ from, to api.Type }{{one, two}, {two, one}, {types.Con("C"), one}, {one, types.Con("C")}, {types.Con("L", two), types.Con("L", one)}} {
		if r, found := Factor([]api.Assign{{Type: c.from}}, []api.Assign{{Type: c.to}}, []int{0}); found || len(r) > 0 {
			t.Errorf("Factor of %s and %s = %s, %v", write(c.from), write(c.to), writeAll(r), found)
		}
	}
}

// parts lists the parts of a type.
func parts(x api.Type) []string {
	out := []string{write(x)}
	for _, arg := range x.Args {
		out = append(out, parts(arg)...)
	}
	return out
}

// searched looks for a factor among all substitutions whose types are parts of what
// b gives: every factor is one of them.
func searched(a, b string, ids []int) (string, bool) {
	var from, to []string
	for _, id := range ids {
		from = append(from, applied(a, strconv.Itoa(id)))
		to = append(to, applied(b, strconv.Itoa(id)))
	}
	var vars, all []string
	for _, word := range strings.Fields(strings.Join(from, " ")) {
		if '0' <= word[0] && word[0] <= '9' && !slices.Contains(vars, word) {
			vars = append(vars, word)
		}
	}
	for _, words := range to {
		all = append(all, parts(typeOf(words))...)
	}
	slices.Sort(all)
	return choose("", vars, slices.Compact(all), func(s string) bool {
		for i := range from {
			if applied(s, from[i]) != to[i] {
				return false
			}
		}
		return true
	})
}

// choose gives each of the variables one of the types, so that a condition holds.
func choose(s string, vars, all []string, is func(string) bool) (string, bool) {
	if len(vars) == 0 {
		return s, is(s)
	}
	for _, words := range all {
		if out, found := choose(strings.TrimPrefix(s+";"+vars[0]+"="+words, ";"), vars[1:], all, is); found {
			return out, true
		}
	}
	return "", false
}

// P13.3: Factor finds a factor exactly if there is one, and that is the only one for
// these variables.
func TestFactorOfAll(t *testing.T) {
	count := map[bool]int{}
	l := append(few(sampleAssigns(), 3), "0=P 1 2;1=P 2 1;2=T", "0=P L 1 -> 0 1;1=P T 2;2=0", "0=P L T -> 0 T;1=P T 1;2=L 0", "0=L P 1 2", "0=L P 2 1", "0=L P T L T;1=T;2=L T")
	for _, a := range l {
		for _, b := range l {
			for _, ids := range [][]int{{0}, {1}, {0, 1}, {1, 0}, {2, 0, 1}, {2, 1, 2}} {
				want, wantFound := searched(a, b, ids)
				r, found := Factor(assigns(a), assigns(b), ids)
				if found != wantFound || writeAll(r) != want {
					t.Fatalf("Factor(%s, %s, %v) = %s, %v; want %s, %v", a, b, ids, writeAll(r), found, want, wantFound)
				}
				count[found]++
			}
		}
	}
	if count[true] < 300 || count[false] < 300 {
		t.Errorf("only %v", count)
	}
}

// P13.3: what Factor returns is a valid substitution of the variables that occur, in
// order, and it is a factor.
func TestFactorIsOne(t *testing.T) {
	count := 0
	for _, a := range sampleAssigns() {
		for _, b := range sampleAssigns() {
			for _, ids := range idLists() {
				r, found := Factor(assigns(a), assigns(b), ids)
				if !found {
					continue
				}
				count++
				var from []api.Type
				for _, id := range ids {
					from = append(from, typeOf(applied(a, strconv.Itoa(id))))
					if got, want := applied(writeAll(r), write(from[len(from)-1])), applied(b, strconv.Itoa(id)); got != want {
						t.Fatalf("Factor(%s, %s, %v) = %s makes %s of %d; want %s", a, b, ids, writeAll(r), got, id, want)
					}
				}
				var order []int
				for _, assign := range r {
					order = append(order, assign.Id)
				}
				if !slices.Equal(order, types.Vars(from...)) || !Valid(r) {
					t.Fatalf("Factor(%s, %s, %v) = %s", a, b, ids, writeAll(r))
				}
			}
		}
	}
	if count < 1000 {
		t.Errorf("only %d factors", count)
	}
}

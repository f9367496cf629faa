package names

import (
	"fmt"
	"math"
	"slices"
	"strings"
	"testing"

	"typedholes/api"
	"typedholes/show"
)

// P11.2: names of the list v1, v2, .. without those that are taken.
func TestFresh(t *testing.T) {
	for _, c := range []struct {
		n     int
		taken string
		want  string
	}{
		{0, "", "v1"}, {1, "", "v2"}, {9, "", "v10"}, {99, "", "v100"}, {12345, "", "v12346"}, {-1, "", "v1"}, {-2, "v1", "v2"}, {math.MinInt, "v1 v2", "v3"},
		{0, "v1", "v2"}, {0, "v2", "v1"}, {1, "v2", "v3"}, {1, "v1", "v3"}, {1, "v1 v3", "v4"}, {0, "v2 v1", "v3"}, {0, "v3 v2 v1", "v4"}, {2, "v4 v2", "v5"}, {2, "v4 v2 v5", "v6"}, {3, "v4 v2 v5", "v7"}, {0, "v2 v3 v4", "v1"}, {1, "v2 v3 v4", "v5"}, {8, "v10", "v9"}, {9, "v10", "v11"}, {9, "v2 v11", "v12"},
		{0, "v1 v1 v1", "v2"}, {1, "v1 v2 v1 v2", "v4"}, {0, "v1 v1 v2", "v3"}, // each name counts once
		{0, "x y V1 v w1 1 vv1 v1x xv1", "v1"}, {1, "v0 v01 v001 v+1 v-1 v1_ v0x1 v1.0 v1e0", "v2"}, {0, "v18446744073709551616 v18446744073709551617 v99999999999999999999999", "v1"}, {0, "v18446744073709551615", "v1"}, {1, "v١", "v2"},
		{math.MaxInt, "", "v9223372036854775808"}, {math.MaxInt, "v1 v9223372036854775809 v9223372036854775811", "v9223372036854775810"}, {math.MaxInt - 1, "v7", "v9223372036854775808"},
	} {
		if got := Fresh(c.n, strings.Fields(c.taken)); got != c.want {
			t.Errorf("Fresh(%d, %s) = %s; want %s", c.n, c.taken, got, c.want)
		}
	}
	if got := Fresh(0, []string{"", " v1", "v1 ", "v\x00", "\xff"}); got != "v1" {
		t.Errorf("Fresh = %s", got)
	}
}

// freshName is Fresh, found by going through the list.
func freshName(n int, taken []string) string {
	for i := 1; ; i++ {
		name := fmt.Sprint("v", i)
		if slices.Contains(taken, name) {
			continue
		}
		if n--; n < 0 {
			return name
		}
	}
}

// P11.2: Fresh agrees with the list, for all sets of taken names among v1 to v6.
func TestFreshOfAll(t *testing.T) {
	for set := range 1 << 6 {
		taken := []string{"x"}
		for i := 5; i >= 0; i-- {
			if set>>i&1 == 1 {
				taken = append(taken, fmt.Sprint("v", i+1))
			}
		}
		for n := -2; n < 9; n++ {
			if got, want := Fresh(n, taken), freshName(n, taken); got != want {
				t.Errorf("Fresh(%d, %v) = %s; want %s", n, taken, got, want)
			}
		}
	}
}

// P11.2: canonical expressions.
func TestCanonical(t *testing.T) {
	for _, c := range []struct {
		src, taken, want string
	}{
		{"x", "", "x"}, {"x", "x", "x"}, {"?", "", "?"}, {"(f 1 : List a)", "v1", "(f 1 : List a)"}, {"{C x}", "", "{C x}"},
		{`\a. a`, "", `\v1. v1`}, {`\a. \b. a b`, "", `\v1. \v2. v1 v2`}, {`\x. \x. \y. x`, "", `\v1. \v2. \v3. v2`}, {`(\a. a) (\b. b)`, "", `(\v1. v1) (\v1. v1)`}, {`\a. (\b. b) (\c. \d. a d)`, "", `\v1. (\v2. v2) (\v2. \v3. v1 v3)`}, {`(\a. a) a`, "", `(\v1. v1) a`},
		{`\a. \b. f a (\c. c b)`, "v2", `\v1. \v3. f v1 (\v4. v4 v3)`}, {`\a. \b. a`, "v1 v2 v4", `\v3. \v5. v3`}, {`\v2. v2`, "v2", `\v1. v1`}, {`\v2. v2`, "v1", `\v2. v2`}, {`\v1. v1`, "v1", `\v2. v2`}, {`\v2. \v1. v1 v2`, "", `\v1. \v2. v2 v1`},
		{`\a. v1 a`, "", `\v2. v1 v2`}, {`\a. \b. a v2 v1`, "v3", `\v4. \v5. v4 v2 v1`}, {`(\v1. v1) (\a. a)`, "", `(\v1. v1) (\v1. v1)`}, {`(\v1. v1) v1`, "", `(\v2. v2) v1`}, {`(\a. \b. a) (\v3. v2)`, "", `(\v1. \v3. v1) (\v1. v2)`}, // also names that are free elsewhere
		{`let x = \y. y in \z. x z`, "", `let v1 = \v1. v1 in \v2. v1 v2`}, {"let x = x in x", "", "let v1 = x in v1"}, {"let x = let y = 1 in y in let z = x in z", "", "let v1 = let v1 = 1 in v1 in let v2 = v1 in v2"}, {`\a. let x = \b. a in x`, "", `\v1. let v2 = \v2. v1 in v2`},
		{`let rec x = \y. x y in x`, "", `let rec v1 = \v2. v1 v2 in v1`}, {"let rec x = let rec y = x in y in let rec z = x in z", "", "let rec v1 = let rec v2 = v1 in v2 in let rec v2 = v1 in v2"}, {`\a. let rec x = \b. a in x`, "v1", `\v2. let rec v3 = \v4. v2 in v3`},
		{`case q of A a b. a b | B. \c. c end`, "", `case q of A v1 v2. v1 v2 | B. \v1. v1 end`}, {`\a. case \b. b of A b c. \d. a b c d | B e. e end`, "", `\v1. case \v2. v2 of A v2 v3. \v4. v1 v2 v3 v4 | B v2. v2 end`}, {"case q of A b a. a b end", "v1", "case q of A v2 v3. v3 v2 end"}, {"case q of A v2 v1. v1 v2 | B v2. v1 end", "", "case q of A v2 v3. v3 v2 | B v2. v1 end"}, {"case case q of A x. x end of A x. x end", "", "case case q of A v1. v1 end of A v1. v1 end"},
		{`{\a. ({a} : v1)}`, "", `{\v1. ({v1} : v1)}`}, {`\a. ?`, "a", `\v1. ?`}, {`\a. A a`, "A", `\v1. A v1`},
	} {
		if got := show.Expr(Canonical(exprOf(t, c.src), strings.Fields(c.taken))); got != c.want {
			t.Errorf("Canonical(%s, %s) = %s; want %s", c.src, c.taken, got, c.want)
		}
	}
}

// P11.2: Canonical is alpha-equal, stripped, and has the names that follow from the
// number of bindings around each one.
func TestCanonicalOfAll(t *testing.T) {
	for _, e := range samples(t) {
		for _, taken := range [][]string{nil, {"v1"}, {"v3", "x", "v2", "v3"}} {
			got := Canonical(e, taken)
			if nameless(got, nil) != nameless(e, nil) || !Alpha(got, e) {
				t.Fatalf("Canonical(%+v, %v) = %+v", e, taken, got)
			}
			if slices.ContainsFunc(positions(got), func(pos int) bool { return pos != 0 }) {
				t.Fatalf("Canonical(%+v) is not stripped: %+v", e, got)
			}
			all := slices.Concat(taken, freeNames(e))
			for _, path := range paths(got) {
				_, around := scopes(got, path)
				part := at(got, path)
				switch part.Kind {
				case api.ExprLam, api.ExprLet, api.ExprRec:
					if want := freshName(len(around), all); part.Name != want {
						t.Fatalf("Canonical(%+v, %v) = %+v; the name at %v must be %s", e, taken, got, path, want)
					}
				}
				for _, a := range part.Arms {
					for i, name := range a.Vars {
						if want := freshName(len(around)+i, all); name != want {
							t.Fatalf("Canonical(%+v, %v) = %+v; a name of an arm at %v must be %s", e, taken, got, path, want)
						}
					}
				}
			}
		}
	}
}

// P11.4: Canonical of Canonical is the same.
func TestCanonicalAgain(t *testing.T) {
	for _, e := range samples(t) {
		for _, taken := range [][]string{nil, {"v2", "y"}} {
			once := Canonical(e, taken)
			if twice := Canonical(once, taken); show.Expr(once) != show.Expr(twice) {
				t.Fatalf("Canonical(%s) = %s", show.Expr(once), show.Expr(twice))
			}
		}
	}
}

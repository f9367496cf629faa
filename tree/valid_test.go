package tree

import (
	"math"
	"regexp"
	"slices"
	"strings"
	"testing"

	"typedholes/api"
	"typedholes/types"
)

var (
	lowerPattern   = regexp.MustCompile(`^[a-z][a-zA-Z0-9_]{0,11}$`)
	upperPattern   = regexp.MustCompile(`^[A-Z][a-zA-Z0-9_]{0,11}$`)
	keywordPattern = regexp.MustCompile(`^(data|let|rec|in|case|of|end)$`)
)

func isLower(s string) bool { return lowerPattern.MatchString(s) && !keywordPattern.MatchString(s) }

func isUpper(s string) bool { return upperPattern.MatchString(s) }

// kinds returns a valid expression of each kind.
func kinds() []api.Expr {
	return []api.Expr{variable("x"), con("C"), number(1), lam("x", hole()), app(hole(), hole()), let("x", hole(), hole()), rec("x", hole(), hole()),
		analysis(hole(), arm("A", hole())), ann(hole(), types.Int()), hole(), held(hole())}
}

// P4.1: an expression of each kind is valid, and of no other kind.
func TestValidKinds(t *testing.T) {
	for i, e := range kinds() {
		if e.Kind != i+1 || !Valid(e) {
			t.Errorf("%+v is not valid", e)
		}
		for _, kind := range []int{math.MinInt, -1, 0, 12, 13, math.MaxInt} {
			e.Kind = kind
			if Valid(e) {
				t.Errorf("%+v is valid", e)
			}
		}
	}
	for _, kind := range []int{math.MinInt, -1, 0, 12, math.MaxInt} {
		if Valid(api.Expr{Kind: kind}) {
			t.Errorf("the kind %d is valid", kind)
		}
	}
}

// P4.1: the positions of expressions and arms are not negative.
func TestValidPos(t *testing.T) {
	for _, pos := range []int{math.MinInt, -2, -1, 0, 1, 3999, 4000, math.MaxInt} {
		for _, e := range kinds() {
			e.Pos = pos
			if got := Valid(e); got != (pos >= 0) {
				t.Errorf("Valid(%+v) is %v", e, got)
			}
		}
		for i := range 3 {
			e := analysis(hole(), arm("A", hole()), arm("B", hole()), arm("C", hole()))
			e.Arms[i].Pos = pos
			if got := Valid(e); got != (pos >= 0) {
				t.Errorf("Valid(%+v) is %v", e, got)
			}
		}
	}
}

// P4.1: the numbers of literals.
func TestValidNum(t *testing.T) {
	for _, num := range []int{math.MinInt, -1, 0, 1, 10, 999999998, 999999999, 1000000000, math.MaxInt} {
		for _, e := range kinds() {
			e.Num = num
			want := num == 0
			if e.Kind == api.ExprInt {
				want = 0 <= num && num <= 999999999
			}
			if got := Valid(e); got != want {
				t.Errorf("Valid(%+v) is %v", e, got)
			}
		}
	}
}

// P4.1: the names of expressions of each kind, and those in arms.
func TestValidNames(t *testing.T) {
	texts := []string{"Int", "int", "INT", "Ints", "data", "let", "rec", "in", "case", "of", "end", "Let", "lets", "In", "End", "->", "-", "?", "x1_", "X1_",
		"abcdefghijkl", "ABCDEFGHIJKL", "abcdefghijklm", "ABCDEFGHIJKLM", strings.Repeat("x", 5000), strings.Repeat("X", 5000), "x y", "x.", "x\n", "é", "xé"}
	for i := range 256 {
		texts = append(texts, string([]byte{byte(i)}), string([]byte{'a', byte(i)}), string([]byte{'A', byte(i)}))
	}
	for _, s := range append(texts, "") {
		for _, e := range kinds() {
			e.Name = s
			want := s == ""
			switch e.Kind {
			case api.ExprVar, api.ExprLam, api.ExprLet, api.ExprRec:
				want = isLower(s)
			case api.ExprCon:
				want = isUpper(s)
			}
			if got := Valid(e); got != want {
				t.Errorf("Valid of the kind %d with the name %.20q is %v", e.Kind, s, got)
			}
		}
		for i := range 3 {
			e := analysis(hole(), arm("A", hole(), "x", "y", "z"), arm("B", hole()), arm("C", hole()))
			e.Arms[i].Con = s
			if got := Valid(e); got != isUpper(s) {
				t.Errorf("Valid of the arm %d with the constructor %.20q is %v", i, s, got)
			}
			e = analysis(hole(), arm("A", hole()), arm("B", hole(), "x", "y", "z"))
			e.Arms[1].Vars[i] = s
			if got := Valid(e); got != isLower(s) {
				t.Errorf("Valid of an arm with the variable %.20q is %v", s, got)
			}
		}
	}
}

// P4.1: the number of kids of each kind.
func TestValidKids(t *testing.T) {
	counts := []int{0, 0, 0, 0, 1, 2, 2, 2, 1, 1, 0, 1} // by kind
	for _, e := range kinds() {
		for count := range 5 {
			e.Kids = slices.Repeat([]api.Expr{variable("x")}, count)
			if got := Valid(e); got != (count == counts[e.Kind]) {
				t.Errorf("Valid of the kind %d with %d kids is %v", e.Kind, count, got)
			}
		}
	}
}

// P4.1: only an analysis has arms, at least one, and their variables are at most
// MaxFields.
func TestValidArms(t *testing.T) {
	for _, e := range kinds() {
		for _, count := range []int{0, 1, 2, 6, 7, 100} {
			e.Arms = slices.Repeat([]api.Arm{arm("A", variable("x"), "x")}, count)
			if got := Valid(e); got != (e.Kind == api.ExprCase == (count > 0)) {
				t.Errorf("Valid of the kind %d with %d arms is %v", e.Kind, count, got)
			}
		}
	}
	for count := range 8 {
		vars := []string{"a", "b", "c", "d", "e", "f", "g"}[:count]
		for _, e := range []api.Expr{analysis(hole(), arm("A", hole(), vars...)), analysis(hole(), arm("A", hole()), arm("A", hole(), vars...))} {
			if got := Valid(e); got != (count <= 4) {
				t.Errorf("Valid of an arm with %d variables is %v", count, got)
			}
		}
	}
	if !Valid(analysis(hole(), arm("A", hole(), "x", "x"), arm("A", hole()))) {
		t.Error("names that occur twice are found in chapter 10 alone")
	}
}

// P4.1: only an annotation has a type, which is valid and consists of TypeCon and
// TypeName alone.
func TestValidTypes(t *testing.T) {
	bound, rigid := api.Type{Kind: api.TypeBound}, api.Type{Kind: api.TypeRigid}
	a, l := typeName("a"), types.Con("L", typeName("a"))
	for _, c := range []struct {
		t    api.Type
		want bool
	}{
		{a, true},
		{types.Int(), true},
		{l, true},
		{types.Arrow(a, types.Arrow(l, types.Int())), true},
		{types.Con("T", a, a, a, a), true},
		{types.Con("T", a, a, a, a, a), false},
		{types.Con("t"), false},
		{typeName("A"), false},
		{typeName("of"), false},
		{types.Con("->", a), false},
		{types.Con("Int", a), false},
		{types.Var(0), false},
		{bound, false},
		{rigid, false},
		{types.Con("T", types.Var(0)), false},
		{types.Arrow(a, bound), false},
		{types.Arrow(rigid, a), false},
		{types.Con("T", a, a, a, types.Con("L", types.Var(3))), false},
		{api.Type{Kind: api.TypeName, Name: "a", Id: 1}, false},
		{api.Type{Kind: 6}, false},
		{api.Type{}, false},
		{types.Con("T", api.Type{}), false},
	} {
		if got := Valid(ann(hole(), c.t)); got != c.want {
			t.Errorf("Valid with the type %+v is %v", c.t, got)
		}
	}
	for _, e := range kinds() {
		for _, x := range []api.Type{a, types.Int(), types.Var(0), {Name: "a"}, {Id: 1}, {Home: -1}, {Args: []api.Type{{}}}} {
			e.Type = x
			if e.Kind != api.ExprAnn && Valid(e) {
				t.Errorf("%+v is valid", e)
			}
		}
		e.Type = api.Type{Args: []api.Type{}}
		if e.Kind != api.ExprAnn && !Valid(e) {
			t.Errorf("%+v is not valid", e)
		}
	}
}

// P4.1: an expression is valid exactly if all of its parts are.
func TestValidParts(t *testing.T) {
	for _, e := range samples() {
		if !Valid(e) {
			t.Fatalf("%+v is not valid", e)
		}
		paths, _ := pathsOf(e)
		for i, path := range paths {
			bad := strange()[i%len(strange())]
			if x, _ := Put(e, path, bad); Valid(x) {
				t.Fatalf("%+v is valid", x)
			}
		}
	}
	for _, bad := range strange() {
		for _, e := range []api.Expr{bad, lam("x", bad), app(bad, hole()), app(hole(), bad), let("x", hole(), bad), rec("x", bad, hole()), held(bad), ann(bad, types.Int()),
			analysis(bad, arm("A", hole())), analysis(hole(), arm("A", bad), arm("B", hole())), analysis(hole(), arm("A", hole()), arm("B", bad)), deep(100, bad)} {
			if Valid(e) {
				t.Errorf("%+v is valid", e)
			}
		}
	}
}

package show

import (
	"math"
	"strconv"
	"strings"
	"testing"

	"typedholes/api"
	"typedholes/readprogram"
	"typedholes/tree"
	"typedholes/types"
)

// P8.1: letters, with and without a number.
func TestLetter(t *testing.T) {
	for n, want := range map[int]string{
		math.MinInt: "a", -27: "a", -26: "a", -1: "a", 0: "a", 1: "b", 12: "m", 13: "n", 24: "y", 25: "z",
		26: "a1", 27: "b1", 51: "z1", 52: "a2", 259: "z9", 260: "a10", 26 * 26: "a26", 1000000: "o38461",
		math.MaxInt32: "x82595524", math.MaxInt: "h354745078340568300",
	} {
		if got := Letter(n); got != want {
			t.Errorf("Letter(%d) = %q; want %q", n, got, want)
		}
	}
}

// P8.1: the letters come in the order of the alphabet, and each number has its own.
func TestLetters(t *testing.T) {
	const alphabet = "abcdefghijklmnopqrstuvwxyz"
	n := 0
	for round := range 300 {
		for _, letter := range alphabet {
			want := string(letter)
			if round > 0 {
				want += strconv.Itoa(round)
			}
			if got := Letter(n); got != want {
				t.Errorf("Letter(%d) = %q; want %q", n, got, want)
			}
			n++
		}
	}
}

func bound(id int) api.Type { return api.Type{Kind: api.TypeBound, Id: id} }

func rigid(home, id int) api.Type { return api.Type{Kind: api.TypeRigid, Home: home, Id: id} }

func name(s string) api.Type { return api.Type{Kind: api.TypeName, Name: s} }

// typeIs checks the text of a type, and that of schemes with it.
func typeIs(t *testing.T, x api.Type, want string) {
	t.Helper()
	if got := Type(x); got != want {
		t.Errorf("Type = %q; want %q", got, want)
	}
	for _, count := range []int{0, 1, 30} {
		if got := Scheme(api.Scheme{Count: count, Type: x}); got != want {
			t.Errorf("Scheme with %d variables = %q; want %q", count, got, want)
		}
	}
}

// P8.1: the texts of types.
func TestType(t *testing.T) {
	a, b, c := bound(0), bound(1), name("c")
	ab := types.Arrow(a, b)
	for _, x := range []struct {
		t    api.Type
		want string
	}{
		{types.Arrow(ab, types.Var(1)), "(a -> b) -> _b"}, // the chapter's example
		{types.Var(0), "_a"}, {types.Var(25), "_z"}, {types.Var(26), "_a1"}, {types.Var(1000000), "_o38461"},
		{a, "a"}, {bound(25), "z"}, {bound(53), "b2"}, {bound(1000000), "o38461"},
		{rigid(0, 0), "'a"}, {rigid(-1, 0), "'a"}, {rigid(1000000, 3), "'d"}, {rigid(7, 27), "'b1"}, {rigid(0, 1000000), "'o38461"},
		{c, "c"}, {name("xs"), "xs"}, {name("a_Long12name"), "a_Long12name"},
		{types.Int(), "Int"}, {types.Con("T"), "T"}, {types.Con("T_0123456789"), "T_0123456789"},
		{ab, "a -> b"}, {types.Arrow(types.Int(), types.Int()), "Int -> Int"},
		{types.Arrow(a, types.Arrow(b, c)), "a -> b -> c"},
		{types.Arrow(types.Arrow(a, b), c), "(a -> b) -> c"},
		{types.Arrow(types.Arrow(a, types.Arrow(b, c)), types.Arrow(types.Arrow(ab, c), c)), "(a -> b -> c) -> ((a -> b) -> c) -> c"},
		{types.Con("List", a), "List a"}, {types.Con("List", types.Int()), "List Int"}, {types.Con("List", types.Con("Nat")), "List Nat"},
		{types.Con("List", types.Con("List", types.Var(2))), "List (List _c)"}, {types.Con("List", ab), "List (a -> b)"},
		{types.Con("P", a, rigid(0, 1), types.Var(2), c), "P a 'b _c c"},
		{types.Con("P", types.Con("List", a), types.Con("Q"), ab), "P (List a) Q (a -> b)"},
		{types.Con("P", types.Con("Q", types.Con("P", a, b), types.Arrow(ab, c)), c), "P (Q (P a b) ((a -> b) -> c)) c"},
		{types.Arrow(types.Con("List", types.Int()), types.Con("P", a, b)), "List Int -> P a b"},
		{types.Arrow(types.Con("List", types.Arrow(a, b)), types.Con("List", ab)), "List (a -> b) -> List (a -> b)"},
	} {
		typeIs(t, x.t, x.want)
	}
	// An empty list of arguments is none.
	typeIs(t, types.Con("P", api.Type{Kind: api.TypeCon, Name: "Q", Args: []api.Type{}}), "P Q")
}

// P8.1: the texts of types in types, and P8.4: they are read as these types.
func TestTypes(t *testing.T) {
	for _, x := range typeSamples(3) {
		typeIs(t, x.part, x.text)
		if !x.readable {
			continue
		}
		if got, f := readprogram.ParseType(x.text); f.Err != api.OK || !types.Equal(got, x.part) {
			t.Errorf("ParseType(%q) has the error %+v, or is not what was shown", x.text, f)
		}
	}
}

func v(name string) api.Expr { return api.Expr{Kind: api.ExprVar, Pos: 1, Name: name} }

func con(name string) api.Expr { return api.Expr{Kind: api.ExprCon, Pos: 2, Name: name} }

func num(n int) api.Expr { return api.Expr{Kind: api.ExprInt, Pos: 3, Num: n} }

func hole() api.Expr { return api.Expr{Kind: api.ExprHole, Pos: 4} }

func lam(name string, body api.Expr) api.Expr {
	return api.Expr{Kind: api.ExprLam, Pos: 5, Name: name, Kids: []api.Expr{body}}
}

func app(f, x api.Expr) api.Expr {
	return api.Expr{Kind: api.ExprApp, Pos: 6, Kids: []api.Expr{f, x}}
}

func let(name string, value, body api.Expr) api.Expr {
	return api.Expr{Kind: api.ExprLet, Pos: 7, Name: name, Kids: []api.Expr{value, body}}
}

func rec(name string, value, body api.Expr) api.Expr {
	return api.Expr{Kind: api.ExprRec, Pos: 8, Name: name, Kids: []api.Expr{value, body}}
}

func cases(e api.Expr, arms ...api.Arm) api.Expr {
	return api.Expr{Kind: api.ExprCase, Pos: 9, Kids: []api.Expr{e}, Arms: arms}
}

func arm(con string, body api.Expr, vars ...string) api.Arm {
	return api.Arm{Pos: 10, Con: con, Vars: vars, Body: body}
}

func ann(e api.Expr, t api.Type) api.Expr {
	return api.Expr{Kind: api.ExprAnn, Pos: 11, Kids: []api.Expr{e}, Type: t}
}

func held(e api.Expr) api.Expr { return api.Expr{Kind: api.ExprHeld, Pos: 12, Kids: []api.Expr{e}} }

// exprIs checks the text of an expression, and that it is read as the same one.
func exprIs(t *testing.T, e api.Expr, want string) {
	t.Helper()
	if got := Expr(e); got != want {
		t.Errorf("Expr = %q; want %q", got, want)
	}
	if got := Expr(tree.Strip(e)); got != want {
		t.Errorf("Expr without positions = %q; want %q", got, want)
	}
	if got, f := readprogram.ParseExpr(want); f.Err != api.OK || !tree.Equal(got, e) {
		t.Errorf("ParseExpr(%q) has the error %+v, or is not what was shown", want, f)
	}
}

// P8.2 and P8.4: the texts of expressions of all kinds.
func TestExpr(t *testing.T) {
	f, g, x, y := v("f"), v("g"), v("x"), v("y")
	for _, c := range []struct {
		e    api.Expr
		want string
	}{
		{app(f, app(g, x)), "f (g x)"}, // the chapter's example
		{x, "x"}, {v("a_Long12name"), "a_Long12name"}, {con("C"), "C"}, {con("C_0123456789"), "C_0123456789"}, {hole(), "?"},
		{num(0), "0"}, {num(7), "7"}, {num(10), "10"}, {num(999999999), "999999999"},
		{lam("x", x), `\x. x`}, {lam("x", lam("y", app(x, y))), `\x. \y. x y`}, {lam("x", hole()), `\x. ?`},
		{app(app(f, x), y), "f x y"}, {app(app(app(f, x), app(g, y)), num(1)), "f x (g y) 1"}, {app(con("S"), con("Z")), "S Z"}, {app(hole(), hole()), "? ?"},
		{app(lam("x", x), lam("y", y)), `(\x. x) (\y. y)`}, {app(app(lam("x", x), x), y), `(\x. x) x y`},
		{let("x", num(1), x), "let x = 1 in x"}, {rec("f", f, app(f, x)), "let rec f = f in f x"},
		{let("x", lam("y", y), lam("z", x)), `let x = \y. y in \z. x`}, {let("x", let("y", x, y), rec("z", y, x)), "let x = let y = x in y in let rec z = y in x"},
		{app(let("x", num(1), x), rec("f", f, f)), "(let x = 1 in x) (let rec f = f in f)"},
		{cases(x, arm("A", num(1))), "case x of A. 1 end"},
		{cases(app(f, x), arm("A", num(1)), arm("B", lam("w", y), "y", "z")), `case f x of A. 1 | B y z. \w. y end`},
		{cases(x, arm("A", x), arm("B", x), arm("C", x, "a", "b", "c", "d")), "case x of A. x | B. x | C a b c d. x end"},
		{cases(cases(x, arm("A", x)), arm("A", cases(y, arm("B", y)))), "case case x of A. x end of A. case y of B. y end end"},
		{app(f, cases(x, arm("A", x))), "f (case x of A. x end)"}, {app(cases(x, arm("A", x)), y), "(case x of A. x end) y"},
		{ann(x, types.Int()), "(x : Int)"}, {ann(lam("x", x), types.Arrow(name("a"), name("a"))), `(\x. x : a -> a)`},
		{ann(app(f, x), types.Con("List", types.Con("List", name("a")))), "(f x : List (List a))"},
		{ann(ann(x, types.Int()), name("a")), "((x : Int) : a)"},
		{app(ann(f, name("a")), ann(x, types.Con("T"))), "(f : a) (x : T)"},
		{held(x), "{x}"}, {held(app(f, x)), "{f x}"}, {held(held(lam("x", x))), `{{\x. x}}`}, {held(hole()), "{?}"},
		{app(held(f), held(app(g, x))), "{f} {g x}"},
	} {
		exprIs(t, c.e, c.want)
	}
	// A list of variables with capacity left, and an empty one.
	exprIs(t, cases(x, arm("A", x, []string{"y", "z"}[:1]...), api.Arm{Con: "B", Vars: []string{}, Body: x}), "case x of A y. x | B. x end")
}

// P8.2 and P8.4: each expression at each place of others.
func TestExprs(t *testing.T) {
	for _, x := range exprSamples(3) {
		exprIs(t, x.part, x.text)
	}
}

// P8.4: what is as deep as it may be, and as long.
func TestLimits(t *testing.T) {
	for _, p := range exprPlaces() {
		x := exprLeaves()[0].at(exprPlaces()[0])
		for range api.MaxDepth - 1 {
			x = x.at(p)
		}
		if tree.Depth(x.part) != api.MaxDepth {
			t.Errorf("the depth of %q is %d", x.text, tree.Depth(x.part))
		}
		exprIs(t, x.part, x.text)
	}
	for _, p := range typePlaces() {
		x := typeLeaves()[0].at(typePlaces()[0])
		for range api.MaxDepth - 1 {
			x = x.at(p)
		}
		if types.Depth(x.part) != api.MaxDepth {
			t.Errorf("the depth of %q is %d", x.text, types.Depth(x.part))
		}
		exprIs(t, ann(hole(), x.part), "(? : "+x.text+")")
		if got, f := readprogram.ParseType(Type(x.part)); f.Err != api.OK || !types.Equal(got, x.part) {
			t.Errorf("ParseType(%q) has the error %+v, or is not what was shown", x.text, f)
		}
	}
	long := cases(v("x"), arm("A", v("seven__")))
	for range 568 {
		long.Arms = append(long.Arms, arm("A", v("y")))
	}
	text := "case x of A. seven__" + strings.Repeat(" | A. y", 568) + " end"
	if len(text) != api.MaxSource {
		t.Errorf("the long text has %d bytes", len(text))
	}
	exprIs(t, long, text)
}

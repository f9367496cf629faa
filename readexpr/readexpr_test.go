package readexpr

import (
	"math"
	"slices"
	"strconv"
	"strings"
	"testing"

	"typedholes/api"
	"typedholes/token"
	"typedholes/tree"
	"typedholes/types"
)

func lower(text string) api.Token { return api.Token{Kind: api.TokenLower, Text: text} }

func upper(text string) api.Token { return api.Token{Kind: api.TokenUpper, Text: text} }

func integer(text string) api.Token { return api.Token{Kind: api.TokenInt, Text: text} }

func word(text string) api.Token { return api.Token{Kind: api.TokenWord, Text: text} }

func mark(text string) api.Token { return api.Token{Kind: api.TokenMark, Text: text} }

// scan returns the tokens of a text.
func scan(t *testing.T, src string) []api.Token {
	t.Helper()
	l, fault := token.Scan(src)
	if fault != (api.Fault{}) {
		t.Fatalf("Scan(%q) = %v", src, fault)
	}
	return l
}

// The expressions with a position.

func v(pos int, name string) api.Expr { return api.Expr{Kind: api.ExprVar, Pos: pos, Name: name} }

func con(pos int, name string) api.Expr { return api.Expr{Kind: api.ExprCon, Pos: pos, Name: name} }

func num(pos, n int) api.Expr { return api.Expr{Kind: api.ExprInt, Pos: pos, Num: n} }

func hole(pos int) api.Expr { return api.Expr{Kind: api.ExprHole, Pos: pos} }

func held(pos int, e api.Expr) api.Expr {
	return api.Expr{Kind: api.ExprHeld, Pos: pos, Kids: []api.Expr{e}}
}

func ann(pos int, e api.Expr, t api.Type) api.Expr {
	return api.Expr{Kind: api.ExprAnn, Pos: pos, Kids: []api.Expr{e}, Type: t}
}

func app(pos int, f, x api.Expr) api.Expr {
	return api.Expr{Kind: api.ExprApp, Pos: pos, Kids: []api.Expr{f, x}}
}

func lam(pos int, name string, body api.Expr) api.Expr {
	return api.Expr{Kind: api.ExprLam, Pos: pos, Name: name, Kids: []api.Expr{body}}
}

func let(pos int, name string, value, body api.Expr) api.Expr {
	return api.Expr{Kind: api.ExprLet, Pos: pos, Name: name, Kids: []api.Expr{value, body}}
}

func rec(pos int, name string, value, body api.Expr) api.Expr {
	return api.Expr{Kind: api.ExprRec, Pos: pos, Name: name, Kids: []api.Expr{value, body}}
}

func cases(pos int, e api.Expr, arms ...api.Arm) api.Expr {
	return api.Expr{Kind: api.ExprCase, Pos: pos, Kids: []api.Expr{e}, Arms: arms}
}

func arm(pos int, con string, body api.Expr, vars ...string) api.Arm {
	return api.Arm{Pos: pos, Con: con, Vars: vars, Body: body}
}

// identical reports whether two expressions are equal with their positions.
func identical(a, b api.Expr) bool {
	return a.Kind == b.Kind && a.Pos == b.Pos && a.Name == b.Name && a.Num == b.Num &&
		types.Equal(a.Type, b.Type) &&
		slices.EqualFunc(a.Kids, b.Kids, identical) &&
		slices.EqualFunc(a.Arms, b.Arms, func(x, y api.Arm) bool {
			return x.Pos == y.Pos && x.Con == y.Con && slices.Equal(x.Vars, y.Vars) && identical(x.Body, y.Body)
		})
}

// result is what Expr or Atom returns.
type result struct {
	e     api.Expr
	next  int
	fault api.Fault
}

type function func([]api.Token, int) (api.Expr, int, api.Fault)

func apply(f function, l []api.Token, i int) result {
	e, next, fault := f(l, i)
	return result{e, next, fault}
}

func (r result) is(other result) bool {
	return identical(r.e, other.e) && r.next == other.next && r.fault == other.fault
}

func refused(pos int) result { return result{fault: api.Fault{Err: api.ErrSyntax, Pos: pos}} }

// P6.1: the expressions of tokens with their positions, and how many tokens
// belong to them.
func TestExpr(t *testing.T) {
	a, integers := api.Type{Kind: api.TypeName, Name: "a"}, types.Int()
	for _, c := range []struct {
		src  string
		want api.Expr
		next int
	}{
		{`f x ( \ y . y )`, app(0, app(0, v(0, "f"), v(2, "x")), lam(6, "y", v(12, "y"))), 8}, // the chapter's example
		{"x", v(0, "x"), 1},
		{"  long_name1", v(2, "long_name1"), 1},
		{"Cons", con(0, "Cons"), 1},
		{" 0", num(1, 0), 1},
		{"999999999", num(0, 999999999), 1},
		{"1020", num(0, 1020), 1},
		{"?", hole(0), 1},
		{"{x}", held(0, v(1, "x")), 3},
		{"{ { ? } }", held(0, held(2, hole(4))), 5},
		{"(x)", v(1, "x"), 3},
		{" ((  x))", v(5, "x"), 5},
		{"(f x)", app(1, v(1, "f"), v(3, "x")), 4},
		{"(x : a)", ann(0, v(1, "x"), a), 5},
		{" ((x) : Int)", ann(1, v(3, "x"), integers), 7},
		{"((x : a))", ann(1, v(2, "x"), a), 7},
		{"((x : a) : Int)", ann(0, ann(1, v(2, "x"), a), integers), 9},
		{"(x : List a -> (Int))", ann(0, v(1, "x"), types.Arrow(types.Con("List", a), integers)), 10},
		{`(\x. x : a)`, ann(0, lam(1, "x", v(5, "x")), a), 8},
		{"(let x = 1 in x : a)", ann(0, let(1, "x", num(9, 1), v(14, "x")), a), 10},
		// Applications.
		{"f x", app(0, v(0, "f"), v(2, "x")), 2},
		{"f x y z", app(0, app(0, app(0, v(0, "f"), v(2, "x")), v(4, "y")), v(6, "z")), 4},
		{"f (g x) y", app(0, app(0, v(0, "f"), app(3, v(3, "g"), v(5, "x"))), v(8, "y")), 6},
		{"(f x) y", app(1, app(1, v(1, "f"), v(3, "x")), v(6, "y")), 5},
		{" (f) x", app(2, v(2, "f"), v(5, "x")), 4},
		{"((f)) (x)", app(2, v(2, "f"), v(7, "x")), 8},
		{"(f : a) x", app(0, ann(0, v(1, "f"), a), v(8, "x")), 6},
		{"((f : a)) x", app(1, ann(1, v(2, "f"), a), v(10, "x")), 8},
		{"{f} x", app(0, held(0, v(1, "f")), v(4, "x")), 4},
		{`(\x. x) y`, app(1, lam(1, "x", v(5, "x")), v(8, "y")), 7},
		{"? ? ?", app(0, app(0, hole(0), hole(2)), hole(4)), 3},
		{"Cons 1 Nil", app(0, app(0, con(0, "Cons"), num(5, 1)), con(7, "Nil")), 3},
		{"1 x", app(0, num(0, 1), v(2, "x")), 2},
		{"f (x : a) {y} 3 ?", app(0, app(0, app(0, app(0, v(0, "f"), ann(2, v(3, "x"), a)), held(10, v(11, "y"))), num(14, 3)), hole(16)), 11},
		// Functions, with all that follows as their bodies.
		{`\x. x`, lam(0, "x", v(4, "x")), 4},
		{`\x. x y`, lam(0, "x", app(4, v(4, "x"), v(6, "y"))), 5},
		{`\x.\y.x`, lam(0, "x", lam(3, "y", v(6, "x"))), 7},
		{` \x. let y = x in y`, lam(1, "x", let(5, "y", v(13, "x"), v(18, "y"))), 9},
		// Definitions.
		{"let x = 1 in x", let(0, "x", num(8, 1), v(13, "x")), 6},
		{"let rec f = f in f x", rec(0, "f", v(12, "f"), app(17, v(17, "f"), v(19, "x"))), 8},
		{"let x = let y = 1 in y in x", let(0, "x", let(8, "y", num(16, 1), v(21, "y")), v(26, "x")), 11},
		{"let x = y in let z = x in z", let(0, "x", v(8, "y"), let(13, "z", v(21, "x"), v(26, "z"))), 11},
		{`let f = \x. x in f`, let(0, "f", lam(8, "x", v(12, "x")), v(17, "f")), 9},
		{" let x = (y) in (z)", let(1, "x", v(10, "y"), v(17, "z")), 10},
		// Analyses.
		{"case x of A. 1 end", cases(0, v(5, "x"), arm(10, "A", num(13, 1))), 7},
		{"case f x of A. 1 | B y. y end", cases(0, app(5, v(5, "f"), v(7, "x")), arm(12, "A", num(15, 1)), arm(19, "B", v(24, "y"), "y")), 13},
		{"case x of Cons y ys. f y ys | Nil. ? end", cases(0, v(5, "x"),
			arm(10, "Cons", app(21, app(21, v(21, "f"), v(23, "y")), v(25, "ys")), "y", "ys"), arm(30, "Nil", hole(35))), 15},
		{`case x of A. \y. y | B. 2 end`, cases(0, v(5, "x"), arm(10, "A", lam(13, "y", v(17, "y"))), arm(21, "B", num(24, 2))), 14},
		{"case x of A. case y of B. 1 | C. 2 end | D. 3 end", cases(0, v(5, "x"),
			arm(10, "A", cases(13, v(18, "y"), arm(23, "B", num(26, 1)), arm(30, "C", num(33, 2)))), arm(41, "D", num(44, 3))), 21},
		{"case case x of A. 1 end of B. 2 end", cases(0, cases(5, v(10, "x"), arm(15, "A", num(18, 1))), arm(27, "B", num(30, 2))), 13},
		{"case x of A. let y = 1 in y | A. z end", cases(0, v(5, "x"), arm(10, "A", let(13, "y", num(21, 1), v(26, "y"))), arm(30, "A", v(33, "z"))), 16},
		{"case (x) of A y y. (y) end", cases(0, v(6, "x"), arm(12, "A", v(20, "y"), "y", "y")), 13},
		// What does not continue an expression ends it.
		{`f \x. x`, v(0, "f"), 1},
		{"f let x = 1 in x", v(0, "f"), 1},
		{"f x case y of", app(0, v(0, "f"), v(2, "x")), 2},
		{"f x; y", app(0, v(0, "f"), v(2, "x")), 2},
		{"x)", v(0, "x"), 1},
		{"x} y", v(0, "x"), 1},
		{"(x) : a", v(1, "x"), 3},
		{"x : a", v(0, "x"), 1},
		{"x = y", v(0, "x"), 1},
		{"x . y", v(0, "x"), 1},
		{"x | y", v(0, "x"), 1},
		{"x -> y", v(0, "x"), 1},
		{"x in y", v(0, "x"), 1},
		{"x of", v(0, "x"), 1},
		{"x end", v(0, "x"), 1},
		{"x rec", v(0, "x"), 1},
		{"x data", v(0, "x"), 1},
		{"case x of A. 1 end y", cases(0, v(5, "x"), arm(10, "A", num(13, 1))), 7},
		{"case x of A. 1 end (y)", cases(0, v(5, "x"), arm(10, "A", num(13, 1))), 7},
		{"case x of A. 1 end end", cases(0, v(5, "x"), arm(10, "A", num(13, 1))), 7},
		{"case x of A. 1 end | B. 2", cases(0, v(5, "x"), arm(10, "A", num(13, 1))), 7},
		{"let x = 1 in x in y", let(0, "x", num(8, 1), v(13, "x")), 6},
		{`\x. x . y`, lam(0, "x", v(4, "x")), 4},
	} {
		if got := apply(Expr, scan(t, c.src), 0); !got.is(result{e: c.want, next: c.next}) {
			t.Errorf("Expr(%q) = %+v; want %+v and %d", c.src, got, c.want, c.next)
		}
	}
}

// P6.1: an atom takes no arguments.
func TestAtom(t *testing.T) {
	for _, c := range []struct {
		src  string
		want api.Expr
		next int
	}{
		{"x y", v(0, "x"), 1},
		{" C x", con(1, "C"), 1},
		{"12 x", num(0, 12), 1},
		{"? x", hole(0), 1},
		{"{f x} y", held(0, app(1, v(1, "f"), v(3, "x"))), 4},
		{"(f x) y", app(1, v(1, "f"), v(3, "x")), 4},
		{" (f : Int) y", ann(1, v(2, "f"), types.Int()), 5},
		{`(\x. x) y`, lam(1, "x", v(5, "x")), 6},
		{"(let x = 1 in x) y", let(1, "x", num(9, 1), v(14, "x")), 8},
		{"{case x of A. 1 end} y", held(0, cases(1, v(6, "x"), arm(11, "A", num(14, 1)))), 9},
		{"x (", v(0, "x"), 1},
		{"x {", v(0, "x"), 1},
		{"x : a", v(0, "x"), 1},
		{"(x) (", v(1, "x"), 3},
	} {
		if got := apply(Atom, scan(t, c.src), 0); !got.is(result{e: c.want, next: c.next}) {
			t.Errorf("Atom(%q) = %+v; want %+v and %d", c.src, got, c.want, c.next)
		}
	}
}

// P6.1: the first unexpected token, and nothing beside it.
func TestErrors(t *testing.T) {
	for _, c := range []struct {
		src string
		pos int
	}{
		{`\ x x`, 4}, // the chapter's example
		{"", 0}, {" # x", 0}, {"in", 0}, {" end", 1}, {"rec", 0}, {"of", 0}, {"data", 0},
		{")", 0}, {" }", 1}, {".", 0}, {"=", 0}, {";", 0}, {":", 0}, {"|", 0}, {"-> x", 0},
		// Functions.
		{`\`, 1}, {`\ # x`, 1}, {`\X. x`, 1}, {`\1. x`, 1}, {`\?. x`, 1}, {`\(x). x`, 1}, {`\ . x`, 2}, {`\\x. x`, 1}, {`\let`, 1},
		{`\x`, 2}, {`\x `, 2}, {`\x x. x`, 3}, {`\x = x`, 3}, {`\x -> x`, 3}, {`\x.`, 3}, {`\x. )`, 4}, {`\x. in`, 4}, {`\x.. x`, 3},
		{`\x. (y`, 6}, {`\x. f (`, 7},
		// Definitions.
		{"let", 3}, {"let X = 1 in x", 4}, {"let 1 = 1 in x", 4}, {"let = 1 in 2", 4}, {"let let", 4}, {"let (x) = 1 in x", 4},
		{"let rec", 7}, {"let rec rec f", 8}, {"let rec F = 1 in x", 8}, {"let rec = 1 in x", 8}, {"rec f = 1 in x", 0},
		{"let x", 5}, {"let x 1 in x", 6}, {"let x : Int = 1 in x", 6}, {"let x y = 1 in x", 6}, {"let rec x 1", 10},
		{"let x =", 7}, {"let x = in x", 8}, {"let x = = 1", 8}, {"let x = 1", 9}, {"let x = 1;", 9}, {"let x = 1 end", 10},
		{"let x = 1 : Int in x", 10}, {"let x = f 1 = x", 12}, {"let x = 1 in", 12}, {"let x = 1 in in", 13}, {"let x = 1 in )", 13},
		{"let x = let y = 1 in y", 22}, {"let x = 1 in (y", 15}, {`let x = \y in x`, 11}, {`let x = f \y. y in x`, 10},
		// Analyses.
		{"case", 4}, {"case of", 5}, {"case )", 5}, {"case x", 6}, {"case x A. 1 end", 8}, {"case x in", 7}, {"case x | A. 1 end", 7},
		{"case x of", 9}, {"case x of end", 10}, {"case x of | A. 1 end", 10}, {"case x of a. 1 end", 10}, {"case x of 1. 1 end", 10}, {"case x of (A). 1 end", 10},
		{"case x of A", 11}, {"case x of A 1 end", 12}, {"case x of A B. 1 end", 12}, {"case x of A x B. 1 end", 14}, {"case x of A (x). 1 end", 12},
		{"case x of A ?. 1 end", 12}, {"case x of A -> 1 end", 12}, {"case x of A = 1 end", 12}, {"case x of A x y", 15},
		{"case x of A.", 12}, {"case x of A. end", 13}, {"case x of A. | B. 1 end", 13}, {"case x of A. . end", 13},
		{"case x of A. 1", 14}, {"case x of A. 1;", 14}, {"case x of A. 1 )", 15}, {"case x of A. 1 of", 15}, {"case x of A. 1 in", 15}, {"case x of A. 1 . 2 end", 15},
		{"case x of A. 1 |", 16}, {"case x of A. 1 | end", 17}, {"case x of A. 1 | b. 2 end", 17}, {"case x of A. 1 || B. 2 end", 16}, {"case x of A. 1 | B. 2", 21}, {"case x of A. 1 | B 2 end", 19},
		{"case x of A. case y of B. 1 end", 31}, {"case case x of A. 1 end", 23},
		// Atoms.
		{"(", 1}, {" (  ", 2}, {"()", 1}, {"((", 2}, {"(x", 2}, {"(x}", 2}, {"(x;", 2}, {"(x.)", 2}, {"(x = y)", 3}, {"(x | y)", 3}, {"((x)", 4}, {`(x \y. y)`, 3}, {"(f x let", 5},
		{"{", 1}, {"{}", 1}, {"{{", 2}, {"{x", 2}, {"{x)", 2}, {"{x : Int}", 3}, {"{(x}", 3}, {"({x)", 3}, {"{x in}", 3},
		{"f (", 3}, {"f x {", 5}, {"f ()", 3}, {"f (x", 4}, {"f (x) (y", 8}, {"f {}", 3}, {"f {x : Int}", 5},
		// Types, and what follows them.
		{"(x :", 4}, {"(x : )", 5}, {"(x : 1)", 5}, {"(x : ?)", 5}, {"(x : in)", 5}, {"(: Int)", 1}, {"(x : a b)", 7}, {"(x : a", 6}, {"(x : T a", 8}, {"(x : T a ;", 9}, {"(x : a ->", 9}, {"(x : a -> )", 10},
		{"(x : (a)", 8}, {"(x : (a", 7}, {"(x : T (a b))", 10}, {"(x : ()", 6}, {"(x : a : b)", 7}, {"(x : a)  (y : )", 14}, {"f (x : T (", 10}, {"(x : T }", 7}, {"{(x : a}", 7}, {"(x : a -> b", 11}, {"(x : T a | b)", 9},
	} {
		if got := apply(Expr, scan(t, c.src), 0); !got.is(refused(c.pos)) {
			t.Errorf("Expr(%q) = %+v; want ErrSyntax at %d", c.src, got, c.pos)
		}
	}
	for _, c := range []struct {
		src string
		pos int
	}{
		{"", 0}, {`\x. x`, 0}, {" let x = 1 in x", 1}, {"case x of A. 1 end", 0}, {"in", 0}, {")", 0}, {":", 0},
		{"(", 1}, {"(x", 2}, {"(f x", 4}, {"{f x)", 4}, {"()", 1}, {"(x : )", 5}, {"(x : a b", 7}, {`(\x x`, 4}, {"{let x = 1}", 10},
	} {
		if got := apply(Atom, scan(t, c.src), 0); !got.is(refused(c.pos)) {
			t.Errorf("Atom(%q) = %+v; want ErrSyntax at %d", c.src, got, c.pos)
		}
	}
}

// P6.1: reading begins at the index, and the results count from the beginning of
// the list.
func TestIndex(t *testing.T) {
	l := scan(t, `x f (\y. y) : 7`)
	f := func(pos int, args ...api.Expr) api.Expr {
		e := args[0]
		for _, x := range args[1:] {
			e = app(pos, e, x)
		}
		return e
	}
	y := lam(5, "y", v(9, "y"))
	at := func(i int) result { return refused(l[i].Pos) }
	both := func(r result) [2]result { return [2]result{r, r} }
	for i, want := range [][2]result{
		{{e: f(0, v(0, "x"), v(2, "f"), y), next: 8}, {e: v(0, "x"), next: 1}},
		{{e: f(2, v(2, "f"), y), next: 8}, {e: v(2, "f"), next: 2}},
		both(result{e: y, next: 8}),
		{{e: y, next: 7}, at(3)},
		both(result{e: v(6, "y"), next: 5}),
		both(at(5)),
		both(result{e: v(9, "y"), next: 7}),
		both(at(7)), both(at(8)),
		both(result{e: num(14, 7), next: 10}),
		both(refused(15)),
	} {
		if e, atom := apply(Expr, l, i), apply(Atom, l, i); !e.is(want[0]) || !atom.is(want[1]) {
			t.Errorf("from %d: %+v and %+v; want %+v", i, e, atom, want)
		}
	}
}

// P6.1: an index that is none counts as the length, also where the list begins
// or ends with an expression.
func TestIndexOutside(t *testing.T) {
	for src, end := range map[string]int{"": 0, " # x": 0, "x": 1, "  f x (C 12) \n": 12, `\x.`: 3, "(x : Int": 8, "= abc # a": 5} {
		l := scan(t, src)
		for _, i := range []int{math.MinInt, math.MinInt32, -len(l) - 1, -len(l), -2, -1, len(l), len(l) + 1, len(l) + 2, 2*len(l) + 3, math.MaxInt32, math.MaxInt} {
			if i >= 0 && i < len(l) {
				continue
			}
			if e, atom := apply(Expr, l, i), apply(Atom, l, i); !e.is(refused(end)) || !atom.is(refused(end)) {
				t.Errorf("%q from %d: %+v and %+v; want ErrSyntax at %d", src, i, e, atom, end)
			}
		}
	}
}

// P6.1: the end is that of the last token of the list, whatever comes before it
// or lies behind it in memory.
func TestEnd(t *testing.T) {
	token := func(kind int, text string, pos int) api.Token { return api.Token{Kind: kind, Text: text, Pos: pos} }
	l := []api.Token{token(api.TokenLower, "f", 70), token(api.TokenMark, "(", 9), token(api.TokenUpper, "Cons", 30),
		token(api.TokenMark, ":", 5), token(api.TokenUpper, "Int", 50), token(api.TokenMark, "->", 8), token(api.TokenInt, "12", 20), token(api.TokenMark, ")", 100)}
	for _, c := range []struct{ from, to, i, end int }{
		{0, 1, 1, 71}, {0, 2, 1, 10}, {0, 2, 0, 10}, {0, 3, 1, 34}, {0, 4, 1, 6}, {0, 5, 0, 53}, {0, 6, 1, 10}, {6, 7, 1, 22}, {6, 8, 2, 101}, {1, 3, 0, 34}, {0, 0, 0, 0}, {3, 3, 0, 0},
	} {
		if got := apply(Expr, l[c.from:c.to], c.i); !got.is(refused(c.end)) {
			t.Errorf("Expr of the tokens %d to %d from %d = %+v; want ErrSyntax at %d", c.from, c.to, c.i, got, c.end)
		}
	}
}

// strange returns tokens that no atom begins with, many of them not valid.
func strange() []api.Token {
	texts := []string{"", "x", "C", "1", "?", "(", ")", "{", "}", `\`, ".", "=", ";", ":", "|", "->", "-", "data", "let", "rec", "in", "case", "of", "end"}
	var out []api.Token
	for _, text := range texts {
		for _, kind := range []int{math.MinInt, -1, 0, api.TokenWord, 6, math.MaxInt} {
			out = append(out, api.Token{Kind: kind, Text: text})
		}
		if !slices.Contains([]string{"?", "(", "{"}, text) {
			out = append(out, mark(text))
		}
	}
	for _, text := range []string{"??", " ?", "? ", "((", "()", "( ", "{}", "["} {
		out = append(out, mark(text))
	}
	return out
}

// P6.1: an atom begins with a name, an integer, a hole, a left parenthesis or a
// left brace.
func TestStarts(t *testing.T) {
	for _, x := range []api.Token{lower("x"), lower("abc_1"), upper("C"), upper("Int"), integer("0"), integer("123"), mark("?"), mark("("), mark("{")} {
		for _, pos := range []int{math.MinInt, -1, 0, 1, 3999, 4000, math.MaxInt} {
			x.Pos = pos
			if !Starts(x) {
				t.Errorf("no atom begins with %+v", x)
			}
		}
	}
	for _, x := range strange() {
		if Starts(x) {
			t.Errorf("an atom begins with %+v", x)
		}
	}
	for _, x := range scan(t, `data let rec in case of end \ . = ; : | ) } ->`) {
		if Starts(x) {
			t.Errorf("an atom begins with %+v", x)
		}
	}
}

// P6.1: the kind of a token tells names and integers apart, whatever its text is.
func TestKinds(t *testing.T) {
	for _, text := range []string{"", "x", "C", "(", ")", "?", "{", `\`, ".", "let", "rec", "in", "of", "end", "7", "\xff", "a name with many letters"} {
		n, c, i := lower(text), upper(text), integer(text)
		if !Starts(n) || !Starts(c) || !Starts(i) {
			t.Errorf("no atom begins with a name or an integer %q", text)
		}
		kinds := func(l []api.Token, want api.Expr) {
			t.Helper()
			if got := apply(Expr, l, 0); !got.is(result{e: want, next: len(l)}) {
				t.Errorf("%+v is read as %+v", l, got)
			}
		}
		kinds([]api.Token{n, c, n}, app(0, app(0, v(0, text), con(0, text)), v(0, text)))
		kinds([]api.Token{mark(`\`), n, mark("."), n}, lam(0, text, v(0, text)))
		kinds([]api.Token{word("let"), n, mark("="), c, word("in"), n}, let(0, text, con(0, text), v(0, text)))
		kinds([]api.Token{word("let"), word("rec"), n, mark("="), c, word("in"), n}, rec(0, text, con(0, text), v(0, text)))
		kinds([]api.Token{word("case"), n, word("of"), c, n, n, mark("."), n, word("end")}, cases(0, v(0, text), arm(0, text, v(0, text), text, text)))
		kinds([]api.Token{mark("("), n, mark(":"), c, n, mark(")")}, ann(0, v(0, text), types.Con(text, api.Type{Kind: api.TypeName, Name: text})))
		// What the number of such an integer is, is left open.
		if got := apply(Expr, []api.Token{n, i}, 0); got.fault != (api.Fault{}) || got.next != 2 || got.e.Kids[1].Kind != api.ExprInt {
			t.Errorf("an integer %q is read as %+v", text, got)
		}
	}
}

// P6.1: integers with all numbers of digits have their values.
func TestIntegers(t *testing.T) {
	for _, n := range []int{0, 1, 7, 10, 19, 99, 100, 123, 1000, 98765, 100000, 1234567, 10000000, 99999999, 100000000, 123456789, 999999999} {
		if got := apply(Atom, scan(t, " "+strconv.Itoa(n)+" x"), 0); !got.is(result{e: num(1, n), next: 1}) {
			t.Errorf("%d is read as %+v", n, got)
		}
	}
	for _, text := range []string{"", "x", "-1", "00", "12345678901234567890123", "1.5", "1_0", " 1", "0x10", "\xff"} {
		apply(Expr, []api.Token{integer(text)}, 0)
	}
}

// P6.1: a token of another kind or with another text is unexpected at each place
// where the grammar wants one mark or one keyword.
func TestMarksAndKeywords(t *testing.T) {
	for _, src := range []string{`\x. y`, "let x = y in z", "let rec x = y in z", "case x of A y. z | B. x end", "(x : a -> b)", "{x}"} {
		l := scan(t, src)
		for i, x := range l {
			// These may also be missing: other tokens continue the expression there.
			if x.Kind != api.TokenMark && x.Kind != api.TokenWord || x.Text == "|" || x.Text == "->" || x.Text == ":" {
				continue
			}
			for _, kind := range []int{math.MinInt, 0, api.TokenWord, api.TokenMark, 6} {
				for _, text := range []string{x.Text, x.Text + " ", "", ">", "data"} {
					other := slices.Clone(l)
					other[i].Kind, other[i].Text = kind, text
					if other[i] == x {
						continue
					}
					if got := apply(Expr, other, 0); !got.is(refused(x.Pos)) {
						t.Errorf("Expr(%+v) = %+v; want ErrSyntax at %d", other, got, x.Pos)
					}
				}
			}
		}
	}
}

// P6.1: strange tokens are unexpected wherever an expression or an atom is
// wanted, and end what is complete.
func TestStrange(t *testing.T) {
	begins := func(x api.Token) bool {
		return x == mark(`\`) || x == word("let") || x == word("case")
	}
	for _, x := range strange() {
		y := x
		y.Pos = 77
		tail := []api.Token{lower("y"), mark("."), word("in"), word("of"), mark(")"), mark("}")}
		for _, before := range [][]api.Token{
			nil, {mark("(")}, {mark("{")}, {lower("f"), mark("(")}, {mark(`\`), lower("x"), mark(".")}, {word("let"), lower("x"), mark("=")},
			{word("let"), lower("x"), mark("="), lower("y"), word("in")}, {word("case")}, {word("case"), lower("x"), word("of"), upper("A"), mark(".")},
		} {
			l := slices.Concat(before, []api.Token{y}, tail)
			if got := apply(Expr, l, 0); !begins(x) && !got.is(refused(77)) {
				t.Errorf("Expr(%+v) = %+v; want ErrSyntax at 77", l, got)
			}
		}
		if got := apply(Atom, append([]api.Token{y}, tail...), 0); !got.is(refused(77)) {
			t.Errorf("Atom(%+v) = %+v; want ErrSyntax at 77", y, got)
		}
		for _, c := range []struct {
			before  []api.Token
			e, atom api.Expr
			atoms   int
		}{
			{[]api.Token{lower("x")}, v(0, "x"), v(0, "x"), 1},
			{[]api.Token{integer("5"), mark("?")}, app(0, num(0, 5), hole(0)), num(0, 5), 1},
			{[]api.Token{mark("("), upper("C"), mark(")")}, con(0, "C"), con(0, "C"), 3},
		} {
			l := slices.Concat(c.before, []api.Token{y}, tail)
			if got := apply(Expr, l, 0); !got.is(result{e: c.e, next: len(c.before)}) {
				t.Errorf("Expr(%+v) = %+v; want %+v", l, got, c.e)
			}
			if got := apply(Atom, l, 0); !got.is(result{e: c.atom, next: c.atoms}) {
				t.Errorf("Atom(%+v) = %+v; want %+v", l, got, c.atom)
			}
		}
	}
}

// P0.4: the tokens do not change, nor does what lies behind them in memory.
func TestArguments(t *testing.T) {
	for _, src := range []string{"", `f (\x. x) {y} 1`, "let rec f = g in (x : T (a -> b) c)", "case x of A y z. 1 | B. ? end ;", "(x : a b)", "let x = ;"} {
		l := scan(t, src)
		for size := range len(l) + 1 {
			spare := slices.Clone(l)
			for i := range len(l) + 1 {
				Expr(spare[:size], i)
				Atom(spare[:size], i)
			}
			if !slices.Equal(spare, l) {
				t.Fatalf("the tokens of %q have changed to %+v", src, spare)
			}
		}
	}
}

// spoil changes all lists that an expression consists of.
func spoil(e api.Expr) {
	for i := range e.Kids {
		spoil(e.Kids[i])
		e.Kids[i] = v(99, "other")
	}
	for i := range e.Arms {
		spoil(e.Arms[i].Body)
		for k := range e.Arms[i].Vars {
			e.Arms[i].Vars[k] = "other"
		}
		e.Arms[i] = arm(99, "Other", v(99, "other"))
	}
	for i := range e.Type.Args {
		e.Type.Args[i] = types.Con("Other")
	}
}

// P6.1: an expression is what it was, also after it was read again and changed.
func TestResultsAreKept(t *testing.T) {
	src := "let f = case x of A y z. (f (\\x. x) : T a b) | B. {?} end in f 1 x"
	l := scan(t, src)
	got, _, _ := Expr(l, 0)
	for i := range l {
		again, _, _ := Expr(l, i)
		spoil(again)
	}
	if again, _, _ := Expr(l, 0); !identical(again, got) {
		t.Errorf("the expression has become %+v; it was %+v", again, got)
	}
}

// P6.1: the positions are those of the tokens, whatever these are.
func TestPositions(t *testing.T) {
	l := scan(t, "let rec f = (case x of A y. {?} end : T a) in (g) 1 C")
	for _, first := range []int{math.MinInt, -20, 0, 5000, math.MaxInt - 20} {
		for i := range l {
			l[i].Pos = first + i
		}
		at := func(i int) int { return first + i }
		want := rec(at(0), "f",
			ann(at(4), cases(at(5), v(at(6), "x"), arm(at(8), "A", held(at(11), hole(at(12))), "y")), types.Con("T", api.Type{Kind: api.TypeName, Name: "a"})),
			app(at(21), app(at(21), v(at(21), "g"), num(at(23), 1)), con(at(24), "C")))
		if got := apply(Expr, l, 0); !got.is(result{e: want, next: len(l)}) {
			t.Errorf("from %d: %+v; want %+v", first, got, want)
		}
		// Positions of errors are those of the tokens, too.
		if got := apply(Expr, l[:len(l)-1], 1); !got.is(refused(at(1))) {
			t.Errorf("from %d: %+v; want ErrSyntax at %d", first, got, at(1))
		}
	}
}

// P6.2: arms can have more variables than MaxFields, and expressions and types
// can be deeper than MaxDepth.
func TestBeyondLimits(t *testing.T) {
	for _, count := range []int{api.MaxFields, api.MaxFields + 1, api.MaxFields + 2, 50, 1000} {
		var vars []string
		for i := range count {
			vars = append(vars, "x"+strconv.Itoa(i))
		}
		l := []api.Token{word("case"), lower("x"), word("of"), upper("A")}
		for _, x := range vars {
			l = append(l, lower(x))
		}
		l = append(l, mark("."), integer("1"), word("end"))
		if got := apply(Expr, l, 0); !got.is(result{e: cases(0, v(0, "x"), arm(0, "A", num(0, 1), vars...)), next: len(l)}) {
			t.Errorf("an arm with %d variables is read as %+v", count, got)
		}
	}
	for depth := api.MaxDepth - 1; depth < 3*api.MaxDepth; depth++ {
		src := strings.Repeat(`\x.`, depth) + "?"
		if got := apply(Expr, scan(t, src), 0); got.fault != (api.Fault{}) || tree.Depth(got.e) != depth {
			t.Errorf("functions of the depth %d: %+v", depth, got)
		}
		src = "(x : " + strings.Repeat("a -> ", depth) + "a)"
		if got := apply(Expr, scan(t, src), 0); got.fault != (api.Fault{}) || types.Depth(got.e.Type) != depth {
			t.Errorf("a type of the depth %d: %+v", depth, got)
		}
	}
}

// repeat returns count times open, middle, and count times close.
func repeat(t *testing.T, count int, open, middle, close string) []api.Token {
	return slices.Concat(slices.Repeat(scan(t, open), count), scan(t, middle), slices.Repeat(scan(t, close), count))
}

// P0.1, P0.8 and P6.2: deep and long expressions are read to their ends.
func TestLarge(t *testing.T) {
	const deep = 1 << 16
	for _, c := range []struct {
		open, middle, close string
		nodes, depth        int
	}{
		{"(", "x", ")", 1, 0},
		{"{", "x", "}", deep + 1, deep},
		{"(", "x", ": a)", deep + 1, deep},
		{`\x.`, "x", "", deep + 1, deep},
		{"let x =", "y", "in z", 2*deep + 1, deep},
		{"let rec x = y in", "z", "", 2*deep + 1, deep},
		{"case", "x", "of A. y end", 2*deep + 1, deep},
		{"case x of A. y | B.", "z", "end", 3*deep + 1, deep},
		{"f (", "x", ")", 2*deep + 1, deep},
		{"(", "f", "x )", 2*deep + 1, deep},
		{"", "f", "x", 2*deep + 1, deep},
		{"", "case x of A. 1", "| B y. ?", 0, 0},
	} {
		l := repeat(t, deep, c.open, c.middle, c.close)
		if c.nodes == 0 {
			l, c.nodes, c.depth = append(l, word("end")), deep+3, 1
		}
		got := apply(Expr, l, 0)
		if got.fault != (api.Fault{}) || got.next != len(l) || tree.Nodes(got.e) != c.nodes || tree.Depth(got.e) != c.depth {
			t.Errorf("%s: %v, %d, %d nodes, depth %d", c.open, got.fault, got.next, tree.Nodes(got.e), tree.Depth(got.e))
		}
	}
	for _, open := range []string{"(", "{", `\x.`, "let x =", "let x = y in", "case", "case x of A.", "f (", "(x : T ("} {
		l := repeat(t, deep, open, "", "")
		for i := range l {
			l[i].Pos = 2 * i
		}
		last := l[len(l)-1]
		if strings.HasPrefix(open, "(x :") {
			// A type in parentheses has no type of its own.
			if got := apply(Expr, l, 0); !got.is(refused(2 * 7)) {
				t.Errorf("%s: %+v", open, got)
			}
			continue
		}
		if got := apply(Expr, l, 0); !got.is(refused(last.Pos + len(last.Text))) {
			t.Errorf("%s: %+v", open, got)
		}
		l = append(l, api.Token{Kind: api.TokenMark, Text: "->", Pos: 5})
		if got := apply(Expr, l, 0); !got.is(refused(5)) {
			t.Errorf("%s and an arrow: %+v", open, got)
		}
	}
	l := slices.Concat(scan(t, "(x :"), repeat(t, deep, "(", "a", ")"), scan(t, ")"))
	if got := apply(Expr, l, 0); !got.is(result{e: ann(0, v(1, "x"), api.Type{Kind: api.TypeName, Name: "a"}), next: len(l)}) {
		t.Errorf("a type in parentheses: %v, %d", got.fault, got.next)
	}
}

package scope

import (
	"fmt"
	"slices"
	"strconv"
	"strings"
	"testing"

	"typedholes/api"
	"typedholes/declare"
	"typedholes/types"
)

// P10.1: the index of the declaration to which arms belong.
func TestArms(t *testing.T) {
	l := programOf(t, "data A = X; data B a = Y a | Z; data C = U | V | W Int; data None = Nothing | Some;").Datas
	for _, c := range []struct {
		arms string
		i    int
		is   bool
	}{
		{"X", 0, true}, {"Y Z", 1, true}, {"U V W", 2, true}, {"Nothing Some", 3, true},
		{"Z Y", 0, false}, {"U W V", 0, false}, {"W V U", 0, false}, {"V U W", 0, false}, {"Some Nothing", 0, false}, // another order
		{"", 0, false}, {"Y", 0, false}, {"Z", 0, false}, {"U V", 0, false}, {"V W", 0, false}, {"U W", 0, false}, {"U", 0, false}, // too few
		{"X X", 0, false}, {"Y Z Z", 0, false}, {"Y Y Z", 0, false}, {"U V W X", 0, false}, {"Y Z U", 0, false}, {"X Y Z", 0, false}, // too many
		{"Y Y", 0, false}, {"Y V", 0, false}, {"X Z", 0, false}, {"U V Some", 0, false}, {"A", 0, false}, {"B B", 0, false}, {"y z", 0, false}, {"Q", 0, false}, {"Y Q", 0, false}, {"Q Z", 0, false},
	} {
		var arms []api.Arm
		for i, con := range strings.Fields(c.arms) {
			// Nothing but the constructors plays a part.
			arms = append(arms, api.Arm{Pos: i, Con: con, Vars: []string{"x", "y"}[:i%3], Body: v("z")})
		}
		if i, is := Arms(l, arms); i != c.i || is != c.is {
			t.Errorf("Arms(%s) = %d, %v; want %d, %v", c.arms, i, is, c.i, c.is)
		}
		if i, is := Arms(nil, arms); i != 0 || is {
			t.Errorf("Arms(%s) = %d, %v without declarations", c.arms, i, is)
		}
	}
	// The chapter's example.
	option := programOf(t, "data E = E; data Option a = None | Some a;").Datas
	if i, is := Arms(option, exprOf(t, "case ? of None. a | Some x. x end").Arms); i != 1 || !is {
		t.Errorf("Arms of Option = %d, %v", i, is)
	}
}

// P10.1: of all lists of constructors, exactly those of the declarations belong to
// one.
func TestArmsOfAll(t *testing.T) {
	l := programOf(t, "data A = X; data B = Y | Z; data C = U | V | W;").Datas
	found := 0
	lists := [][]api.Arm{nil}
	for len(lists) > 0 {
		arms := lists[0]
		lists = lists[1:]
		want := slices.Index(families(l), family(arms))
		i, is := Arms(l, arms)
		if is != (want >= 0) || i != max(want, 0) {
			t.Fatalf("Arms(%s) = %d, %v", family(arms), i, is)
		}
		if is {
			found++
		}
		if len(arms) < 4 {
			for _, con := range []string{"U", "V", "W", "X", "Y", "Z"} {
				lists = append(lists, append(slices.Clone(arms), api.Arm{Con: con}))
			}
		}
	}
	if found != 3 {
		t.Errorf("%d lists belong to a declaration", found)
	}
}

// P10.2: the first errors of expressions.
func TestExpr(t *testing.T) {
	l := programOf(t, "data O a = N | S a; data P a b = P a b; data E = E; data Q = Q Int Int Int Int;").Datas
	for _, c := range []struct {
		src string
		err api.Errno
		pos int
	}{
		// variables; f and g are visible everywhere
		{"f", api.OK, 0}, {"f g", api.OK, 0}, {"x", api.ErrScope, 0}, {"f x", api.ErrScope, 2}, {"x y", api.ErrScope, 0}, {"f (g (f x)) y", api.ErrScope, 8}, {"(x)", api.ErrScope, 1}, {"?", api.OK, 0}, {"12", api.OK, 0}, {"{x}", api.ErrScope, 1}, {"{f}", api.OK, 0},
		{`\x. x`, api.OK, 0}, {`\x. y`, api.ErrScope, 4}, {`\x. \y. x y`, api.OK, 0}, {`(\x. x) x`, api.ErrScope, 8}, {`x (\x. x)`, api.ErrScope, 0}, {`\x. (\y. x) y`, api.ErrScope, 12}, {`\f. f g`, api.OK, 0}, {`(\f. f) f`, api.OK, 0}, {`\x. \x. x`, api.OK, 0}, {`\xy. x`, api.ErrScope, 5},
		{"let x = 1 in x", api.OK, 0}, {"let x = x in 1", api.ErrScope, 8}, {"let x = 1 in y", api.ErrScope, 13}, {"let f = f in f", api.OK, 0}, {`let x = \x. x in x`, api.OK, 0}, {"(let x = 1 in x) x", api.ErrScope, 17}, {"let x = let y = 1 in y in y", api.ErrScope, 26}, {"let x = y in let y = 1 in x", api.ErrScope, 8},
		{"let rec x = x in x", api.OK, 0}, {"let rec x = y in x", api.ErrScope, 12}, {"let rec x = x in y", api.ErrScope, 17}, {"f (let rec x = x in 1) x", api.ErrScope, 23}, {"let rec x = let rec y = x y in y x in x", api.OK, 0}, {"let rec x = let rec y = x y in y x in y", api.ErrScope, 38},
		{`\n. let x = n in n`, api.OK, 0}, {"let x = z in y", api.ErrScope, 8}, {"let rec x = z in y", api.ErrScope, 12},
		// constructors
		{"N", api.OK, 0}, {"S (S N)", api.OK, 0}, {"P E", api.OK, 0}, {"O", api.ErrScope, 0}, {"S O", api.ErrScope, 2}, {"Int", api.ErrScope, 0}, {"X x", api.ErrScope, 0}, {"x X", api.ErrScope, 0}, {`\n. N (M n)`, api.ErrScope, 7},
		// arms
		{"case f of N. 1 | S x. x end", api.OK, 0}, {"case f of N. x | S x. x end", api.ErrScope, 13}, {"case f of N. 1 | S x. y end", api.ErrScope, 22}, {"case x of N. 1 | S x. x end", api.ErrScope, 5}, {"case f of P x y. x y | E. 1 end", api.ErrArms, 0}, {"case f of P x y. y x end", api.OK, 0}, {"case f of P x y. z end", api.ErrScope, 17}, {"case f of E. x end", api.ErrScope, 13}, {"(case f of P x y. x end) y", api.ErrScope, 25}, {"case f of P f g. f g end", api.OK, 0}, {"case f of Q a b c d. d c b a end", api.OK, 0}, {`\x. case x of P x x1. x end`, api.OK, 0},
		{"f (case f of N. 1 end)", api.ErrArms, 3}, {"f (case f of S x. 1 | N. 1 end)", api.ErrArms, 3}, {"case f of N. 1 | S x. 1 | E. 1 end", api.ErrArms, 0}, {"case f of N. 1 | N. 1 end", api.ErrArms, 0}, {"case f of E. 1 | E. 1 end", api.ErrArms, 0}, {"case f of N. 1 | E. 1 end", api.ErrArms, 0},
		{"case f of M. 1 end", api.ErrScope, 10}, {"case f of N. 1 | M. 1 end", api.ErrScope, 17}, {"case f of N. 1 | M. 1 | K. 1 end", api.ErrScope, 17}, {"case f of O. 1 | S x. 1 end", api.ErrScope, 10}, {"case f of S x. 1 | N. 1 | M. 1 end", api.ErrScope, 26},
		{"case f of N x. 1 | S x. 1 end", api.ErrArity, 10}, {"case f of N. 1 | S. 1 end", api.ErrArity, 17}, {"case f of N. 1 | S x y. 1 end", api.ErrArity, 17}, {"case f of P x. 1 end", api.ErrArity, 10}, {"case f of P. 1 end", api.ErrArity, 10}, {"case f of P x y z. 1 end", api.ErrArity, 10}, {"case f of Q a b c. 1 end", api.ErrArity, 10}, {"case f of E x. 1 end", api.ErrArity, 10},
		{"case f of P x x. 1 end", api.ErrDuplicate, 10}, {"case f of Q a b c a. 1 end", api.ErrDuplicate, 10}, {"case f of Q a b c c. 1 end", api.ErrDuplicate, 10}, {"case f of Q a b b c. 1 end", api.ErrDuplicate, 10}, {"case f of P f f. 1 end", api.ErrDuplicate, 10},
		// The errors of a case come in this order, and before those of its children.
		{"case x of M. y | N y. z end", api.ErrScope, 10}, {"case f of N x. 1 | M. 1 end", api.ErrScope, 19}, {"case f of P x x. 1 | M. 1 end", api.ErrScope, 21}, {"case f of S x x. 1 | N. 1 end", api.ErrArms, 0}, {"case f of P x. 1 | P x x. 1 end", api.ErrArms, 0}, {"case x of S x. y | N. y end", api.ErrArms, 0},
		{"case x of N. y | S. z end", api.ErrArity, 17}, {"case f of N x. 1 | S. 1 end", api.ErrArity, 10}, {"case f of P x x x. 1 end", api.ErrArity, 10}, {"case f of N y y. 1 | S y y. 1 end", api.ErrArity, 10}, {"case x of P y y. z end", api.ErrDuplicate, 10}, {"case X of N. X | S y y. X end", api.ErrArity, 17},
		{"case x of N. y | S y. z end", api.ErrScope, 5}, {"case f of N. y | S y. z end", api.ErrScope, 13}, {"case (case x of M. 1 end) of K. 1 end", api.ErrScope, 29}, {"case (case x of M. 1 end) of E. y end", api.ErrScope, 16}, {"case f of E. case f of M. 1 end end", api.ErrScope, 23}, {"case f of N. case f of N. 1 end | S x x. 1 end", api.ErrArity, 34},
		// annotations
		{"(f : Int)", api.OK, 0}, {"(f : O (O Int) -> E)", api.OK, 0}, {"(f : a)", api.ErrType, 0}, {"f (f : O a)", api.ErrType, 2}, {"f (f : f)", api.ErrType, 2}, {`\a. (a : a)`, api.ErrType, 4}, {"(f : T)", api.ErrType, 0}, {"(f : N)", api.ErrType, 0}, {"(f : O)", api.ErrArity, 0}, {"(f : Int -> E E)", api.ErrArity, 0}, {"(f : O a b)", api.ErrArity, 0}, {"(f : O b -> O)", api.ErrType, 0},
		{"(x : T)", api.ErrType, 0}, {"(x : P E)", api.ErrArity, 0}, {"(x : E)", api.ErrScope, 1}, {"((f : O) : T)", api.ErrType, 0}, {"((f : O) : E)", api.ErrArity, 1}, {"f (x : E) (f : T)", api.ErrScope, 3}, {"f (f : T) x", api.ErrType, 2}, {"f x (f : T)", api.ErrScope, 2},
	} {
		if got := Expr(l, []string{"f", "g"}, exprOf(t, c.src)); got != (api.Fault{Err: c.err, Pos: c.pos}) {
			t.Errorf("Expr(%s) = %+v; want %d at %d", c.src, got, c.err, c.pos)
		}
	}
}

// P10.2: the names and the declarations that are given decide about what is known.
func TestExprKnown(t *testing.T) {
	one := programOf(t, "data A = A;").Datas
	for _, c := range []struct {
		datas []api.Data
		names []string
		src   string
		err   api.Errno
		pos   int
	}{
		{nil, nil, "x", api.ErrScope, 0}, {nil, []string{}, "x", api.ErrScope, 0}, {nil, []string{"x"}, "x", api.OK, 0}, {nil, []string{"y", "x"}, "x y", api.OK, 0}, {nil, []string{"x", "x"}, "x", api.OK, 0}, {nil, []string{"xx", "X", "y"}, "x", api.ErrScope, 0},
		{nil, nil, "A", api.ErrScope, 0}, {nil, []string{"A"}, "A", api.ErrScope, 0}, {one, nil, "A", api.OK, 0}, {one, nil, "B", api.ErrScope, 0}, {one, nil, "a", api.ErrScope, 0}, {[]api.Data{}, nil, "A", api.ErrScope, 0},
		{nil, nil, "case ? of A. 1 end", api.ErrScope, 10}, {one, nil, "case ? of A. 1 end", api.OK, 0}, {one, nil, "case ? of B. 1 end", api.ErrScope, 10},
		{nil, nil, "(1 : A)", api.ErrType, 0}, {one, nil, "(1 : A)", api.OK, 0}, {one, []string{"a"}, "(1 : a)", api.ErrType, 0}, {nil, nil, "(1 : Int -> Int)", api.OK, 0}, {nil, nil, "(1 : Int Int)", api.ErrArity, 0},
	} {
		if got := Expr(c.datas, c.names, exprOf(t, c.src)); got != (api.Fault{Err: c.err, Pos: c.pos}) {
			t.Errorf("Expr(%v, %s) = %+v; want %d at %d", c.names, c.src, got, c.err, c.pos)
		}
	}
}

// P10.2: Expr agrees with the errors that are found part by part.
func TestExprParts(t *testing.T) {
	l := programOf(t, sampleDatas).Datas
	found := map[string]int{}
	for _, e := range samples(t) {
		for _, names := range [][]string{nil, {"x"}, {"z", "y"}, {"x", "y", "z"}} {
			want := firstFault(l, names, e)
			if got := Expr(l, names, e); got != want {
				t.Fatalf("Expr(%v, %+v) = %+v; want %+v", names, e, got, want)
			}
			found[fmt.Sprint(want.Err, want.Pos > 0)]++
		}
	}
	for _, err := range []api.Errno{api.OK, api.ErrScope, api.ErrArms, api.ErrArity, api.ErrDuplicate, api.ErrType} {
		if found[fmt.Sprint(err, err != api.OK)] < 500 {
			t.Errorf("few samples have the error %d: %v", err, found)
		}
	}
}

// P10.2: the Pos is that of the expression or the arm, whatever their order.
func TestExprPositions(t *testing.T) {
	l := programOf(t, sampleDatas).Datas
	hole := api.Expr{Kind: api.ExprHole, Pos: 50}
	analysis := func(vars ...string) api.Expr {
		return api.Expr{Kind: api.ExprCase, Pos: 9, Kids: []api.Expr{hole}, Arms: []api.Arm{{Pos: 8, Con: "P", Vars: vars, Body: hole}}}
	}
	other := analysis()
	other.Arms = []api.Arm{{Pos: 7, Con: "N", Body: hole}, {Pos: 6, Con: "M", Body: hole}}
	few := analysis()
	few.Arms = []api.Arm{{Pos: 7, Con: "N", Body: hole}}
	for _, c := range []struct {
		e    api.Expr
		want api.Fault
	}{
		{api.Expr{Kind: api.ExprVar, Pos: 5, Name: "x"}, api.Fault{Err: api.ErrScope, Pos: 5}},
		{api.Expr{Kind: api.ExprCon, Pos: 4, Name: "M"}, api.Fault{Err: api.ErrScope, Pos: 4}},
		{api.Expr{Kind: api.ExprAnn, Pos: 3, Type: types.Con("O"), Kids: []api.Expr{hole}}, api.Fault{Err: api.ErrArity, Pos: 3}},
		{api.Expr{Kind: api.ExprAnn, Pos: 3, Type: types.Con("E"), Kids: []api.Expr{hole}}, api.Fault{}}, // no error has no position
		{analysis("x"), api.Fault{Err: api.ErrArity, Pos: 8}},
		{analysis("x", "x"), api.Fault{Err: api.ErrDuplicate, Pos: 8}},
		{analysis("x", "y"), api.Fault{}},
		{other, api.Fault{Err: api.ErrScope, Pos: 6}},
		{few, api.Fault{Err: api.ErrArms, Pos: 9}},
		{hole, api.Fault{}},
	} {
		if got := Expr(l, nil, c.e); got != c.want {
			t.Errorf("Expr(%+v) = %+v; want %+v", c.e, got, c.want)
		}
	}
}

// P10.3: the first errors of programs.
func TestCheck(t *testing.T) {
	for _, c := range []struct {
		src string
		err api.Errno
		pos int
	}{
		{"", api.OK, 0}, {"data A = A;", api.OK, 0}, {"let x = 1;", api.OK, 0}, {"let x = ?; let y = x; let z = x y;", api.OK, 0},
		// the names of bindings
		{"let x = x;", api.ErrScope, 8}, {"let rec x = x;", api.OK, 0}, {"let rec x = y;", api.ErrScope, 12}, {"let x = y; let y = 1;", api.ErrScope, 8}, {"let rec x = y; let rec y = x;", api.ErrScope, 12}, {"let rec x = 1; let y = x; let z = z;", api.ErrScope, 34}, {"let x = 1; let rec y = x y; let z = y x;", api.OK, 0}, {`let x = \y. y; let z = y;`, api.ErrScope, 23}, {`let x = let y = 1 in y; let z = y;`, api.ErrScope, 32}, {`let x = \x. x; let y = let x = x in x;`, api.OK, 0},
		{"let x = 1; let x = 2;", api.ErrDuplicate, 11}, {"let x = 1; let rec x = x;", api.ErrDuplicate, 11}, {"let x = 1; let y = 2; let x = 3;", api.ErrDuplicate, 22}, {"let x = 1; let y = 2; let y = 3; let x = 4;", api.ErrDuplicate, 22}, {"data A = X; let x = 1; let a = 2;", api.OK, 0},
		// signatures
		{"let x : a = ?;", api.OK, 0}, {"let x : a -> b -> a = ?;", api.OK, 0}, {"let x : A = ?; data A = A;", api.OK, 0}, {"data O a = N; let x : O (O b) -> c = ?;", api.OK, 0}, {"let x : A = ?;", api.ErrType, 0}, {"let x = 1; let y : a -> A a = ?;", api.ErrType, 11}, {"data O a = N; let x : O = N;", api.ErrArity, 14}, {"data O a = N; let x : O a b = N;", api.ErrArity, 14}, {"data O a = N; let x : O (O) -> T = N;", api.ErrArity, 14}, {"data O a = N; let x : T -> O = N;", api.ErrType, 14}, {"let x : Int a = 1;", api.ErrArity, 0}, {"let x : N = 1; data O = N;", api.ErrType, 0},
		{"let f : a -> a = (? : a);", api.ErrType, 17}, // the names of a signature are not those of annotations
		// bodies
		{"let x = (1 : A);", api.ErrType, 8}, {"let x = (1 : Int Int);", api.ErrArity, 8}, {"let x = A; data O = A;", api.OK, 0}, {"let x = O; data O = A;", api.ErrScope, 8}, {`data O a = N | S a; let f = \x. case x of S y. y | N. 1 end;`, api.ErrArms, 32}, {`data O a = N | S a; let f = \x. case x of N. 1 | S y z. y end;`, api.ErrArity, 49}, {`data P = P Int Int; let f = \x. case x of P x x. 1 end;`, api.ErrDuplicate, 42}, {`data O a = N | S a; let rec f = \x. case x of N. f | S f. f y end;`, api.ErrScope, 60}, {"let x = ?; let y = {x z};", api.ErrScope, 22},
		// the order: for each binding its name, its signature, its body
		{"let x = 1; let x : A = y;", api.ErrDuplicate, 11}, {"let x : A = y;", api.ErrType, 0}, {"let x : Int Int = (y : A);", api.ErrArity, 0}, {"let x = y; let x = 1;", api.ErrScope, 8}, {"let x = y; let z : A = 1;", api.ErrScope, 8}, {"let x : A = 1; let y = z; let y = 1;", api.ErrType, 0}, {"let x = 1; let y = z; let z : A = 1; let x = 2;", api.ErrScope, 19}, {"let x = 1; let y : A = 1; let z = u;", api.ErrType, 11},
		// declarations come first
		{"let x = y; data A = B | B;", api.ErrDuplicate, 24}, {"let x = 1; let x = 2; data A = B C;", api.ErrType, 31}, {"let x : A A = 1; data A = B (A A);", api.ErrArity, 26}, {"let x = y; data A = A; data A = B;", api.ErrDuplicate, 23}, {"let x = y; data A = A a;", api.ErrType, 20},
	} {
		if got := Check(programOf(t, c.src)); got != (api.Fault{Err: c.err, Pos: c.pos}) {
			t.Errorf("Check(%s) = %+v; want %d at %d", c.src, got, c.err, c.pos)
		}
	}
}

// P10.3: what Check finds in a body is what Expr finds there.
func TestCheckBodies(t *testing.T) {
	l := programOf(t, sampleDatas).Datas
	found := map[api.Errno]int{}
	for i, e := range samples(t) {
		rec := i%2 == 0
		names := []string{"z", "x"}
		if rec {
			names = []string{"z", "x", "y"}
		}
		p := api.Program{Datas: l, Binds: []api.Bind{
			{Pos: 900, Name: "z", Body: exprOf(t, "1")}, {Pos: 901, Name: "x", Body: exprOf(t, "z")}, {Pos: 902, Rec: rec, Name: "y", HasSig: i%3 == 0, Sig: types.Int(), Body: e},
		}}
		want := firstFault(l, names, e)
		if got := Check(p); got != want {
			t.Fatalf("Check with the body %+v = %+v; want %+v", e, got, want)
		}
		found[want.Err]++
	}
	if len(found) != 6 {
		t.Errorf("the samples have the errors %v", found)
	}
}

// P10.3: the positions are those of the bindings; only a signature that a binding
// has is tested.
func TestCheckBinds(t *testing.T) {
	one := exprOf(t, "1")
	for _, c := range []struct {
		binds []api.Bind
		want  api.Fault
	}{
		{[]api.Bind{{Pos: 9, Name: "x", Body: one}, {Pos: 3, Name: "x", Body: one}}, api.Fault{Err: api.ErrDuplicate, Pos: 3}},
		{[]api.Bind{{Pos: 9, Name: "x", HasSig: true, Sig: types.Con("A"), Body: one}}, api.Fault{Err: api.ErrType, Pos: 9}},
		{[]api.Bind{{Pos: 9, Name: "x", HasSig: false, Sig: types.Con("A"), Body: one}}, api.Fault{}},
		{[]api.Bind{{Pos: 9, Name: "x", Body: api.Expr{Kind: api.ExprVar, Pos: 4, Name: "x"}}}, api.Fault{Err: api.ErrScope, Pos: 4}},
		{[]api.Bind{{Pos: 9, Name: "x", Rec: true, Body: api.Expr{Kind: api.ExprVar, Pos: 4, Name: "x"}}}, api.Fault{}}, // no error has no position
		{nil, api.Fault{}},
		{[]api.Bind{}, api.Fault{}},
	} {
		if got := Check(api.Program{Binds: c.binds}); got != c.want {
			t.Errorf("Check(%+v) = %+v; want %+v", c.binds, got, c.want)
		}
	}
}

// P10.3: the error of the declarations is that of declare.Check.
func TestCheckDatas(t *testing.T) {
	for _, src := range []string{"data A = A;", "data Int = A;", "data A a a = A;", "data A = A | A;", "data A = B; data A = C;", "data A = A b;", "data A = A (A A);"} {
		p := programOf(t, src+" let x = y;")
		want := declare.Check(p.Datas)
		if want.Err == api.OK {
			want = api.Fault{Err: api.ErrScope, Pos: len(src) + 9}
		}
		if got := Check(p); got != want {
			t.Errorf("Check(%s) = %+v; want %+v", src, got, want)
		}
	}
}

// P10.2 and P10.3: many names, as no program that is read has.
func TestManyNames(t *testing.T) {
	const count = 2000
	var p api.Program
	body := v("b0")
	for i := range count {
		body = lam("v"+strconv.Itoa(i), body)
		p.Binds = append(p.Binds, api.Bind{Pos: i, Name: "b" + strconv.Itoa(i), Body: api.Expr{Kind: api.ExprInt}})
	}
	p.Binds = append(p.Binds, api.Bind{Pos: count, Name: "c", Body: body})
	for range 3 {
		if got := Check(p); got != (api.Fault{}) {
			t.Errorf("Check = %+v", got)
		}
	}
	p.Binds[count].Name = "b7"
	if got := Check(p); got != (api.Fault{Err: api.ErrDuplicate, Pos: count}) {
		t.Errorf("Check = %+v", got)
	}
}

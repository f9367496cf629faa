package readprogram

import (
	"slices"
	"strings"
	"testing"

	"typedholes/api"
	"typedholes/tree"
	"typedholes/types"
)

// The expressions with a position.

func v(pos int, name string) api.Expr { return api.Expr{Kind: api.ExprVar, Pos: pos, Name: name} }

func con(pos int, name string) api.Expr { return api.Expr{Kind: api.ExprCon, Pos: pos, Name: name} }

func num(pos, n int) api.Expr { return api.Expr{Kind: api.ExprInt, Pos: pos, Num: n} }

func hole(pos int) api.Expr { return api.Expr{Kind: api.ExprHole, Pos: pos} }

func held(pos int, e api.Expr) api.Expr {
	return api.Expr{Kind: api.ExprHeld, Pos: pos, Kids: []api.Expr{e}}
}

func ann(pos int, e api.Expr, t api.Type) api.Expr {
	return api.Expr{Kind: api.ExprAnn, Pos: pos, Kids: []api.Expr{e}, Type: t}
}

func app(pos int, f, x api.Expr) api.Expr {
	return api.Expr{Kind: api.ExprApp, Pos: pos, Kids: []api.Expr{f, x}}
}

func lam(pos int, name string, body api.Expr) api.Expr {
	return api.Expr{Kind: api.ExprLam, Pos: pos, Name: name, Kids: []api.Expr{body}}
}

func let(pos int, name string, value, body api.Expr) api.Expr {
	return api.Expr{Kind: api.ExprLet, Pos: pos, Name: name, Kids: []api.Expr{value, body}}
}

func rec(pos int, name string, value, body api.Expr) api.Expr {
	return api.Expr{Kind: api.ExprRec, Pos: pos, Name: name, Kids: []api.Expr{value, body}}
}

func cases(pos int, e api.Expr, arms ...api.Arm) api.Expr {
	return api.Expr{Kind: api.ExprCase, Pos: pos, Kids: []api.Expr{e}, Arms: arms}
}

func arm(pos int, con string, body api.Expr, vars ...string) api.Arm {
	return api.Arm{Pos: pos, Con: con, Vars: vars, Body: body}
}

func name(name string) api.Type { return api.Type{Kind: api.TypeName, Name: name} }

// identical reports whether two expressions are equal with their positions.
func identical(a, b api.Expr) bool {
	return a.Kind == b.Kind && a.Pos == b.Pos && a.Name == b.Name && a.Num == b.Num &&
		types.Equal(a.Type, b.Type) &&
		slices.EqualFunc(a.Kids, b.Kids, identical) &&
		slices.EqualFunc(a.Arms, b.Arms, func(x, y api.Arm) bool {
			return x.Pos == y.Pos && x.Con == y.Con && slices.Equal(x.Vars, y.Vars) && identical(x.Body, y.Body)
		})
}

// identicalPrograms reports whether two programs are equal with their positions.
func identicalPrograms(a, b api.Program) bool {
	return slices.EqualFunc(a.Datas, b.Datas, func(x, y api.Data) bool {
		return x.Pos == y.Pos && x.Name == y.Name && slices.Equal(x.Params, y.Params) &&
			slices.EqualFunc(x.Constructors, y.Constructors, func(x, y api.Constructor) bool {
				return x.Pos == y.Pos && x.Name == y.Name && slices.EqualFunc(x.Fields, y.Fields, types.Equal)
			})
	}) && slices.EqualFunc(a.Binds, b.Binds, func(x, y api.Bind) bool {
		return x.Pos == y.Pos && x.Rec == y.Rec && x.Name == y.Name && x.HasSig == y.HasSig &&
			types.Equal(x.Sig, y.Sig) && identical(x.Body, y.Body)
	})
}

// P7.1: the programs of texts, with all positions.
func TestParse(t *testing.T) {
	a, list := name("a"), types.Con("List", name("a"))
	for _, c := range []struct {
		src   string
		datas []api.Data
		binds []api.Bind
	}{
		{src: ""},
		{src: " \t\r\n# let x = ;\n"},
		{src: `let id = \x. x;`, binds: []api.Bind{{Name: "id", Body: lam(9, "x", v(13, "x"))}}}, // the chapter's example
		{src: " let x=1;", binds: []api.Bind{{Pos: 1, Name: "x", Body: num(7, 1)}}},
		{src: "let rec f = f;", binds: []api.Bind{{Rec: true, Name: "f", Body: v(12, "f")}}},
		{src: "let x : Int = ?;", binds: []api.Bind{{Name: "x", HasSig: true, Sig: types.Int(), Body: hole(14)}}},
		{src: "let rec f : a -> List a = (g);", binds: []api.Bind{{Rec: true, Name: "f", HasSig: true, Sig: types.Arrow(a, list), Body: v(27, "g")}}},
		{src: "let f : (a -> Int) -> a = {C} 2;", binds: []api.Bind{{Name: "f", HasSig: true, Sig: types.Arrow(types.Arrow(a, types.Int()), a), Body: app(26, held(26, con(27, "C")), num(30, 2))}}},
		{src: "let x = (y : a);", binds: []api.Bind{{Name: "x", Body: ann(8, v(9, "y"), a)}}},
		{src: "let x = let y = 1 in y;let z=let rec y = 2 in y;", binds: []api.Bind{
			{Name: "x", Body: let(8, "y", num(16, 1), v(21, "y"))}, {Pos: 23, Name: "z", Body: rec(29, "y", num(41, 2), v(46, "y"))}}},
		{src: "let f = case x of A y z. y | B. 0 end;", binds: []api.Bind{{Name: "f", Body: cases(8, v(13, "x"), arm(18, "A", v(25, "y"), "y", "z"), arm(29, "B", num(32, 0)))}}},
		{src: "let x = 1; let x = 2;", binds: []api.Bind{{Name: "x", Body: num(8, 1)}, {Pos: 11, Name: "x", Body: num(19, 2)}}}, // found in chapter 10
		{src: "data T = A;", datas: []api.Data{{Name: "T", Constructors: []api.Constructor{{Pos: 9, Name: "A"}}}}},
		{src: "data T=T;", datas: []api.Data{{Name: "T", Constructors: []api.Constructor{{Pos: 7, Name: "T"}}}}},
		{src: "\ndata List a = Nil | Cons a (List a);", datas: []api.Data{{Pos: 1, Name: "List", Params: []string{"a"}, Constructors: []api.Constructor{
			{Pos: 15, Name: "Nil"}, {Pos: 21, Name: "Cons", Fields: []api.Type{a, list}}}}}},
		{src: "data P a b = P a b;", datas: []api.Data{{Name: "P", Params: []string{"a", "b"}, Constructors: []api.Constructor{{Pos: 13, Name: "P", Fields: []api.Type{a, name("b")}}}}}},
		{src: "data F a a = F List a (a -> Int) ((b));", datas: []api.Data{{Name: "F", Params: []string{"a", "a"}, Constructors: []api.Constructor{
			{Pos: 13, Name: "F", Fields: []api.Type{types.Con("List"), a, types.Arrow(a, types.Int()), name("b")}}}}}}, // a, twice, is found in chapter 9
		{src: "let x = 1; data A = B;let y = x;data C = D | E;", datas: []api.Data{
			{Pos: 11, Name: "A", Constructors: []api.Constructor{{Pos: 20, Name: "B"}}}, {Pos: 32, Name: "C", Constructors: []api.Constructor{{Pos: 41, Name: "D"}, {Pos: 45, Name: "E"}}}},
			binds: []api.Bind{{Name: "x", Body: num(8, 1)}, {Pos: 22, Name: "y", Body: v(30, "x")}}},
	} {
		want := api.Program{Datas: c.datas, Binds: c.binds}
		got, f := Parse(c.src)
		if f != (api.Fault{}) || !identicalPrograms(got, want) {
			t.Errorf("Parse(%q) = %+v, %+v; want %+v", c.src, got, f, want)
		}
	}
}

// refused checks that Parse returns an error, and nothing beside it.
func refused(t *testing.T, src string, err api.Errno, pos int) {
	t.Helper()
	if p, f := Parse(src); f != (api.Fault{Err: err, Pos: pos}) || len(p.Datas)+len(p.Binds) > 0 {
		t.Errorf("Parse(%.60q) = %+v, %+v; want the error %d at %d", src, p, f, err, pos)
	}
}

// P7.1: the first unexpected token of the whole text.
func TestParseSyntax(t *testing.T) {
	for _, c := range []struct {
		src string
		pos int
	}{
		{"let x = ;", 8}, // the chapter's example
		{"x", 0}, {" ;", 1}, {"1", 0}, {"T = A;", 0}, {"rec f = 1;", 0}, {"in", 0}, {"case x of A. 1 end;", 0}, {`\x. x;`, 0}, {"(let x = 1;)", 0},
		// Bindings.
		{"let", 3}, {"let ", 3}, {"let X = 1;", 4}, {"let 1 = 1;", 4}, {"let = 1;", 4}, {"let (x) = 1;", 4}, {"let let", 4}, {"let data = 1;", 4},
		{"let rec", 7}, {"let rec rec f = 1;", 8}, {"let rec F = 1;", 8}, {"let rec = 1;", 8}, {"let rec : Int = 1;", 8},
		{"let x", 5}, {"let x;", 5}, {"let x 1;", 6}, {"let x y = 1;", 6}, {"let x -> 1;", 6},
		{"let x :", 7}, {"let x : = 1;", 8}, {"let x : ;", 8}, {"let x : 1 = 1;", 8}, {"let x : a", 9}, {"let x : a;", 9}, {"let x : a b = 1;", 10}, {"let x : a : b = 1;", 10}, {"let x : a -> = 1;", 13}, {"let x : (a = 1;", 11},
		{"let x : T a (b", 14}, {"let x : a | b = 1;", 10}, {"let x : ? = 1;", 8}, {"let x : T a 1 = 1;", 12},
		{"let x =", 7}, {"let x = = 1;", 8}, {"let x = 1", 9}, {"let x = 1  # end", 9}, {"let x = 1 : Int;", 10}, {"let x = 1 = 2;", 10}, {"let x = 1 | 2;", 10}, {"let x = 1 in x;", 10}, {"let x = 1 end;", 10},
		{"let x = 1 let y = 2;", 10}, {"let x = 1 data T = A;", 10}, {"let x = 1)", 9}, {"let x = (1;", 10}, {"let x = {1;", 10}, {"let x = f (y;)", 12}, {`let x = \y z. 1;`, 11}, {"let x = let y = 1;", 17}, {"let x = case y of A. 1;", 22},
		{"let x = data;", 8}, {"let x = rec;", 8}, {`let x = f \y. y;`, 10}, {"let x = (y : Int;", 16}, {"let x = (y : a b);", 15},
		// Data declarations.
		{"data", 4}, {"data t = A;", 5}, {"data 1 = A;", 5}, {"data = A;", 5}, {"data (T) = A;", 5}, {"data rec T = A;", 5}, {"data data", 5},
		{"data T", 6}, {"data T;", 6}, {"data T A = B;", 7}, {"data T a B = C;", 9}, {"data T (a) = B;", 7}, {"data T 1 = B;", 7}, {"data T : Int = A;", 7}, {"data T a", 8}, {"data T | A;", 7},
		{"data T =", 8}, {"data T = ;", 9}, {"data T = a;", 9}, {"data T = | A;", 9}, {"data T = (A);", 9}, {"data T = 1;", 9}, {"data T = = A;", 9},
		{"data T = A", 10}, {"data T = A 1;", 11}, {"data T = A ?;", 11}, {"data T = A -> B;", 11}, {"data T = A a -> b;", 13}, {"data T = A = B;", 11}, {"data T = A : Int;", 11}, {"data T = A {a};", 11}, {"data T = A);", 10}, {"data T = A in", 11},
		{"data T = A (", 12}, {"data T = A ();", 12}, {"data T = A (a;", 13}, {"data T = A (a b);", 14}, {"data T = A (a ->);", 16}, {"data T = A (T a | B);", 16}, {"data T = A a (T a", 17},
		{"data T = A |", 12}, {"data T = A | ;", 13}, {"data T = A || B;", 12}, {"data T = A | b;", 13}, {"data T = A | B", 14}, {"data T = A | B let x = 1;", 15}, {"data T = A data U = B;", 11},
		// Several declarations.
		{"let x = 1;;", 10}, {"let x = 1; ;", 11}, {"let x = 1; x", 11}, {"let x = 1; let", 14}, {"data T = A; A", 12}, {"data T = A; let x = 1; data", 27}, {"data T = A; let x = 1; let y = ; let", 31}, {"let x = 1; data T = ; data", 20},
		{"let x = ; data T = ;", 8}, {"let x = 1; )", 11}, {"let x = 1; (", 11}, {"let x = 1; in", 11},
	} {
		refused(t, c.src, api.ErrSyntax, c.pos)
	}
}

// longText returns a text of a size, which ends with a comment.
func longText(src string, size int) string { return src + "#" + strings.Repeat("x", size-len(src)-1) }

// P7.1: the errors of tokens come before those of syntax, and these before limits.
func TestParseOrder(t *testing.T) {
	deep := strings.Repeat(`\x.`, 41) + "x"
	manyDatas := "data T a b c d e = A;"
	for _, src := range []string{"let x = 1;", "", "data T = A;", "let x = \"1\";", "x $", "let x = " + deep + ";", manyDatas} {
		refused(t, longText(src, api.MaxSource+1), api.ErrLong, 0)
		refused(t, longText(src, 2*api.MaxSource), api.ErrLong, 0)
	}
	if p, f := Parse(longText("let x = 1;", api.MaxSource)); f != (api.Fault{}) || len(p.Binds) != 1 {
		t.Errorf("a text of MaxSource bytes: %+v, %+v", p, f)
	}
	refused(t, strings.Repeat(" ", 3988)+"let x = ;  #", api.ErrSyntax, 3996)
	for _, c := range []struct {
		src string
		pos int
	}{
		{"$", 0}, {"x $", 2}, {"let x = ; $", 10}, {"let x = 1; -", 11}, {"let x = 01;", 8}, {"let x = 1 + 2;", 10}, {"let abcdefghijklm = 1;", 4}, {"data T = A; é", 12}, {"let x = 1234567890;", 8},
		{"let x = " + deep + "; \x00", 134}, {manyDatas + "let x = 1a;", 29}, {"let x = (\xff", 9},
	} {
		refused(t, c.src, api.ErrLexical, c.pos)
	}
	for _, c := range []struct {
		src string
		pos int
	}{
		{"let x = " + deep + "; x", 134}, {"let x = " + deep, 132}, {manyDatas + "let x = ;", 29}, {manyDatas + "let", 24}, {strings.Repeat("let x = 1;", 17) + "let", 173}, {strings.Repeat("data T = A;", 9) + "data T;", 105},
		{"let x = case y of A a b c d e. 1;", 32}, {"data T = A Int Int Int Int Int", 30}, {"let f : " + strings.Repeat("a->", 41) + "a;", 132},
	} {
		refused(t, c.src, api.ErrSyntax, c.pos)
	}
}

// P7.1 and P7.2: texts that exceed a limit, and texts that do not.
func TestParseLimits(t *testing.T) {
	typ := strings.Repeat("a->", 41) + "a"
	expr := strings.Repeat(`\x.`, 41) + "x"
	vars := "case x of A. 1 | B a b c d e. 2 end"
	for _, c := range []struct {
		src string
		err api.Errno
		pos int
	}{
		{strings.Repeat("data T = A;", 9), api.ErrMany, 88},
		{strings.Repeat("data T = A;", 10), api.ErrMany, 88},
		{strings.Repeat("data T = A; let x = 1;", 9), api.ErrMany, 176},
		{strings.Repeat("let x = 1;", 17), api.ErrMany, 160},
		{strings.Repeat("let x = 1;", 17) + strings.Repeat("data T = A;", 9), api.ErrMany, 258},
		{" data T a b c d e = A;", api.ErrMany, 1},
		{"data T = A|B|C|D|E|F|G;", api.ErrMany, 0},
		{"data T = A|B|C|D|E|F a a a a a|G;", api.ErrMany, 0},
		{"data T = A|B|C|D|E a a a a a|F;", api.ErrMany, 17},
		{"data T = A; data U = B|C a (b) a Int (a->a)|D a a a a a;", api.ErrMany, 23},
		{"let x = 1; data T = A a a a a a;", api.ErrMany, 20},
		{"let x = " + expr + ";", api.ErrDepth, 0},
		{"let y = 1; let x = " + expr + ";", api.ErrDepth, 11},
		{"let y = 1; let x : " + typ + " = 1;", api.ErrDepth, 11},
		{"let y = 1; let rec x = (1 : " + typ + ");", api.ErrDepth, 11},
		{"let y = 1; data T = A | B a (" + typ + ");", api.ErrDepth, 11},
		{"let x = " + expr + "; data T = A (" + typ + ");", api.ErrDepth, 134},
		{"let x = " + vars + "; let y = " + expr + ";", api.ErrMany, 25},
		{"let y = " + expr + "; let x = " + vars + ";", api.ErrDepth, 0},
		{"let x = (" + vars + " : " + typ + ");", api.ErrDepth, 0},
		{"let x : " + typ + " = " + vars + ";", api.ErrDepth, 0},
		{"let x = f (" + vars + ");", api.ErrMany, 28},
		{"let x = " + vars + "; data T = A (" + typ + ");", api.ErrDepth, 45},
		{"let x = case " + vars + " of A. 1 | B a b c d e. 2 end;", api.ErrMany, 59},
		{"let x = case x of A. " + vars + " | B a b c d e. 2 end;", api.ErrMany, 59},
	} {
		refused(t, c.src, c.err, c.pos)
	}
	for _, src := range []string{
		strings.Repeat("data T = A;", 8) + strings.Repeat("let x = 1;", 16),
		"data T a b c d = A|B a a a a|C|D|E|F a (b) Int (a -> a);",
		"let x : " + typ[3:] + " = (1 : " + typ[3:] + ");",
		"data T = A (" + typ[3:] + ") Int;",
		"let x = " + expr[3:] + ";",
		"let x = " + strings.Repeat("(", 100) + expr[3:] + strings.Repeat(")", 100) + ";",
		"let x : " + strings.Repeat("(", 100) + typ[3:] + strings.Repeat(")", 100) + " = 1;",
		"let x = case x of A a b c d. 1 | B a b c d. 2 end;",
		"let x = " + strings.Repeat("f (", 39) + "f x" + strings.Repeat(")", 39) + ";",
	} {
		if p, f := Parse(src); f != (api.Fault{}) || len(p.Datas)+len(p.Binds) == 0 {
			t.Errorf("Parse(%.60q) = %+v", src, f)
		} else {
			checkValid(t, src, p)
		}
	}
	refused(t, "let x = "+strings.Repeat("f (", 40)+"f x"+strings.Repeat(")", 40)+";", api.ErrDepth, 0)
}

// P7.3: expressions alone, and what is refused.
func TestParseExpr(t *testing.T) {
	deep, typ := strings.Repeat(`\x.`, 41)+"x", strings.Repeat("a->", 41)+"a"
	for _, c := range []struct {
		src  string
		want api.Expr
	}{
		{"x", v(0, "x")},
		{` \x. x # end`, lam(1, "x", v(5, "x"))},
		{"f x (1)", app(0, app(0, v(0, "f"), v(2, "x")), num(5, 1))},
		{"let x = ? in {x}", let(0, "x", hole(8), held(13, v(14, "x")))},
		{"let rec x = C in x", rec(0, "x", con(12, "C"), v(17, "x"))},
		{"(x : Int)", ann(0, v(1, "x"), types.Int())},
		{"((x))", v(2, "x")},
		{"case x of A a b c d. 1 end", cases(0, v(5, "x"), arm(10, "A", num(21, 1), "a", "b", "c", "d"))},
		{"(x : " + typ[3:] + ")", ann(0, v(1, "x"), toTheNames(40))},
	} {
		if got, f := ParseExpr(c.src); f != (api.Fault{}) || !identical(got, c.want) || !tree.Valid(got) {
			t.Errorf("ParseExpr(%q) = %+v, %+v; want %+v", c.src, got, f, c.want)
		}
	}
	if got, f := ParseExpr(deep[3:]); f != (api.Fault{}) || tree.Depth(got) != 40 {
		t.Errorf("the depth 40: %+v", f)
	}
	vars := "case x of A. 1 | B a b c d e. 2 end"
	for _, c := range []struct {
		src string
		err api.Errno
		pos int
	}{
		{longText("x", api.MaxSource+1), api.ErrLong, 0}, {longText("$", api.MaxSource+1), api.ErrLong, 0},
		{"x $", api.ErrLexical, 2}, {"x; $", api.ErrLexical, 3}, {") 01", api.ErrLexical, 2}, {deep + " -", api.ErrLexical, 125},
		{"", api.ErrSyntax, 0}, {" # x", api.ErrSyntax, 0}, {"x;", api.ErrSyntax, 1}, {"x )", api.ErrSyntax, 2}, {"(x", api.ErrSyntax, 2}, {`\x x`, api.ErrSyntax, 3}, {"let x = 1;", api.ErrSyntax, 9}, {"x : Int", api.ErrSyntax, 2},
		{"let x = 1", api.ErrSyntax, 9}, {"x let", api.ErrSyntax, 2}, {"data T = A;", api.ErrSyntax, 0}, {"x = 1", api.ErrSyntax, 2}, {"case x of A. 1 end y", api.ErrSyntax, 19}, {"(x : T a", api.ErrSyntax, 8}, {`f \x. x`, api.ErrSyntax, 2},
		{deep + ";", api.ErrSyntax, 124}, {vars + " 1", api.ErrSyntax, 36}, {"(x : " + typ, api.ErrSyntax, 129},
		{deep, api.ErrDepth, 0}, {"  " + deep, api.ErrDepth, 0}, {" (x : " + typ + ")", api.ErrDepth, 0}, {"f {(x : T (" + typ[3:] + "))}", api.ErrDepth, 0},
		{"f (" + vars + ") (x : " + typ + ")", api.ErrDepth, 0}, {"f (" + vars + ") (" + deep + ")", api.ErrDepth, 0}, {"case x of A a b c d e. " + deep + " end", api.ErrDepth, 0},
		{vars, api.ErrMany, 17}, {" f {" + vars + "}", api.ErrMany, 21}, {"case " + vars + " of A a b c d e. 1 end", api.ErrMany, 44}, {"case " + vars + " of A. 1 end", api.ErrMany, 22},
		{"case x of A. " + vars + " | B a b c d e. 2 end", api.ErrMany, 51}, {"f (" + vars + ") (" + vars + ")", api.ErrMany, 20}, {"case x of A a b c d e f. 1 end", api.ErrMany, 10},
	} {
		if got, f := ParseExpr(c.src); f != (api.Fault{Err: c.err, Pos: c.pos}) || !identical(got, api.Expr{}) {
			t.Errorf("ParseExpr(%.60q) = %+v, %+v; want the error %d at %d", c.src, got, f, c.err, c.pos)
		}
	}
}

// toTheNames returns the type of a depth with the name a everywhere.
func toTheNames(depth int) api.Type {
	t := name("a")
	for range depth {
		t = types.Arrow(name("a"), t)
	}
	return t
}

// P7.3: types alone, and what is refused.
func TestParseType(t *testing.T) {
	typ := strings.Repeat("a->", 41) + "a"
	inner := strings.Repeat("T (", 40) + "T a" + strings.Repeat(")", 40)
	for _, c := range []struct {
		src  string
		want api.Type
	}{
		{"a", name("a")},
		{" Int # end", types.Int()},
		{"List a -> (Int)", types.Arrow(types.Con("List", name("a")), types.Int())},
		{"(a -> b) -> T (T a) b", types.Arrow(types.Arrow(name("a"), name("b")), types.Con("T", types.Con("T", name("a")), name("b")))},
		{typ[3:], toTheNames(40)},
		{strings.Repeat("(", 200) + "a" + strings.Repeat(")", 200), name("a")},
	} {
		if got, f := ParseType(c.src); f != (api.Fault{}) || !types.Equal(got, c.want) || !types.Valid(got) {
			t.Errorf("ParseType(%q) = %+v, %+v; want %+v", c.src, got, f, c.want)
		}
	}
	for _, c := range []struct {
		src string
		err api.Errno
		pos int
	}{
		{longText("a", api.MaxSource+1), api.ErrLong, 0}, {longText("$", api.MaxSource+1), api.ErrLong, 0},
		{"a $", api.ErrLexical, 2}, {"a b -", api.ErrLexical, 4}, {typ + " 00", api.ErrLexical, 125},
		{"", api.ErrSyntax, 0}, {"\n", api.ErrSyntax, 0}, {"a b", api.ErrSyntax, 2}, {"a ->", api.ErrSyntax, 4}, {"a;", api.ErrSyntax, 1}, {"1", api.ErrSyntax, 0}, {"(a", api.ErrSyntax, 2}, {"a)", api.ErrSyntax, 1}, {"T a ?", api.ErrSyntax, 4},
		{"T (a b)", api.ErrSyntax, 5}, {"let", api.ErrSyntax, 0}, {"a : b", api.ErrSyntax, 2}, {"a = b", api.ErrSyntax, 2}, {typ + " b", api.ErrSyntax, 125}, {typ + "->", api.ErrSyntax, 126},
		{typ, api.ErrDepth, 0}, {"  " + typ, api.ErrDepth, 0}, {"T (" + typ[3:] + ")", api.ErrDepth, 0}, {inner, api.ErrDepth, 0}, {" (" + typ + ")", api.ErrDepth, 0},
	} {
		if got, f := ParseType(c.src); f != (api.Fault{Err: c.err, Pos: c.pos}) || !types.Equal(got, api.Type{}) {
			t.Errorf("ParseType(%.60q) = %+v, %+v; want the error %d at %d", c.src, got, f, c.err, c.pos)
		}
	}
}

// hasManyArgs reports whether a part of a type has more arguments than a valid one,
// which is no error of this chapter: chapter 9 finds it.
func hasManyArgs(t api.Type) bool {
	return t.Name != "->" && len(t.Args) > api.MaxParams || t.Name == "Int" && len(t.Args) > 0 || slices.ContainsFunc(t.Args, hasManyArgs)
}

func annotationHasManyArgs(e api.Expr) bool {
	return hasManyArgs(e.Type) || slices.ContainsFunc(tree.Children(e), annotationHasManyArgs)
}

// checkValid checks that a program consists of valid expressions and types, apart
// from types with too many arguments.
func checkValid(t *testing.T, src string, p api.Program) {
	t.Helper()
	valid := func(x api.Type) bool { return types.Valid(x) || hasManyArgs(x) }
	for _, d := range p.Datas {
		if d.Pos < 0 || !types.Valid(types.Con(d.Name)) || slices.ContainsFunc(d.Params, func(s string) bool { return !types.Valid(name(s)) }) {
			t.Errorf("%q has the declaration %+v", src, d)
		}
		for _, c := range d.Constructors {
			if c.Pos < d.Pos || !types.Valid(types.Con(c.Name)) || slices.ContainsFunc(c.Fields, func(x api.Type) bool { return !valid(x) }) {
				t.Errorf("%q has the constructor %+v", src, c)
			}
		}
	}
	for _, b := range p.Binds {
		sig := b.HasSig && valid(b.Sig) || types.Equal(b.Sig, api.Type{})
		if b.Pos < 0 || !types.Valid(name(b.Name)) || !sig || !tree.Valid(b.Body) && !annotationHasManyArgs(b.Body) {
			t.Errorf("%q has the binding %+v", src, b)
		}
	}
}

// P7.2: types with too many arguments exceed no limit of this chapter.
func TestManyArguments(t *testing.T) {
	for _, src := range []string{"let x : T a a a a a = 1;", "let x = (1 : Int a);", "data T = A (T a a a a a a) (Int Int);"} {
		if p, f := Parse(src); f != (api.Fault{}) || len(p.Datas)+len(p.Binds) != 1 {
			t.Errorf("Parse(%q) = %+v, %+v", src, p, f)
		}
	}
}

// P7.4: texts with other white space and superfluous parentheses.
func TestOtherTexts(t *testing.T) {
	for _, texts := range [][]string{
		{"let id = \\x. x;", "let id=\\x.x;", "\tlet\nid\r=\\ x . x ; # end", "let id = (\\x. ((x)));", "let # let\nid = ( \\x.(x) );"},
		{"data List a = Nil | Cons a (List a);", "data List a=Nil|Cons a(List a);", "data\nList\na\n=\nNil\n|\nCons\na\n(List a)\n;", "data List a = Nil | Cons (a) (((List (a))));"},
		{"let f : (a -> b) -> T (T a) = f x y;", "let f:(a->b)->T(T a)=f x y;", "let f : ((a) -> (b)) -> (T ((T (a)))) = ((f) (x)) y;", "let f : ((a -> b) -> T (T a)) = (f x) (y);", "let f : (a -> b) -> (T (T a)) = (((f x y)));"},
		{"let x = case f y of A z. (z : a -> b -> c) | B. {?} end;", "let x=case(f y)of A z.(((z)):a->(b->c))|B.({(?)})end;", "let x = (case (f) (y) of A z. ((z : ((a) -> b -> c))) | B. {?} end);"},
		{"let x = let y = 1 in let rec z = y in z;let x=1;", "let x = let y = (1) in (let rec z = (y) in (z));\n\n\nlet x = (1);"},
	} {
		p, f := Parse(texts[0])
		if f != (api.Fault{}) {
			t.Errorf("Parse(%q) = %+v", texts[0], f)
		}
		checkValid(t, texts[0], p)
		for _, src := range texts[1:] {
			if q, f := Parse(src); f != (api.Fault{}) || !tree.EqualProgram(p, q) {
				t.Errorf("Parse(%q) = %+v, %+v; want %+v", src, q, f, p)
			}
		}
	}
}

// P7.1: the text of MaxSource bytes with the deepest nesting of each kind.
func TestParseNested(t *testing.T) {
	for _, open := range []string{"(", "{", `\x.`, "let x=", "case ", "f(", "(x:(", "case x of A."} {
		src := "let x = " + strings.Repeat(open, (api.MaxSource-8)/len(open))
		refused(t, src, api.ErrSyntax, nestedError(open, src))
	}
	size := (api.MaxSource - 10) / 2
	if p, f := Parse("let x = " + strings.Repeat("(", size) + "x" + strings.Repeat(")", size) + ";"); f != (api.Fault{}) || !identical(p.Binds[0].Body, v(8+size, "x")) {
		t.Errorf("%d parentheses: %+v", size, f)
	}
	refused(t, "let x = "+strings.Repeat("{", size)+"x"+strings.Repeat("}", size)+";", api.ErrDepth, 0)
	refused(t, "let x : "+strings.Repeat("a->", 1300)+"a=1;", api.ErrDepth, 0)
}

// nestedError returns the offset of the error of a text that ends after many
// openings: the end, unless the second opening is unexpected in a type.
func nestedError(open, src string) int {
	if open == "(x:(" {
		return len("let x = (x:((x")
	}
	return len(strings.TrimRight(src, " "))
}

// P7.1 and P7.3: results are new memory, so that changes in them are not seen
// later.
func TestResultsAreKept(t *testing.T) {
	src := "data T a = A a (T a) | B; let f : T a -> a = case (x : T a) of A y z. f y | B. ? end;"
	p, _ := Parse(src)
	q, _ := Parse(src)
	q.Datas[0].Params[0], q.Datas[0].Constructors[0].Fields[0], q.Datas[0].Constructors[1].Name = "b", types.Int(), "C"
	q.Binds[0].Sig.Args[0], q.Binds[0].Body.Kids[0], q.Binds[0].Body.Arms[0].Vars[0] = types.Int(), hole(1), "q"
	if r, _ := Parse(src); !identicalPrograms(p, r) || identicalPrograms(q, r) {
		t.Errorf("Parse(%q) = %+v; it was %+v", src, r, p)
	}
}

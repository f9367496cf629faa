package names

import (
	"math"
	"reflect"
	"slices"
	"strconv"
	"strings"
	"testing"

	"typedholes/api"
	"typedholes/scope"
	"typedholes/tree"
	"typedholes/types"
)

// P11.1: the names of the free variables, in the order in which they occur first.
func TestFree(t *testing.T) {
	for _, c := range []struct {
		src  string
		want string
	}{
		{"x", "x"}, {"?", ""}, {"1", ""}, {"C", ""}, {"C x", "x"}, {"y x", "y x"}, {"x y x", "x y"}, {"x (y (z x)) y", "x y z"}, {"{q}", "q"}, {"{?}", ""}, {"(q : Int)", "q"}, {"(q : List a)", "q"},
		{`\x. x`, ""}, {`\x. y`, "y"}, {`\x. \y. x y z`, "z"}, {`(\x. x) x`, "x"}, {`x (\x. x)`, "x"}, {`(\x. y x) x`, "y x"}, {`(\x. x y) z x`, "y z x"}, {`(\x. (\x. x) x) y x`, "y x"}, {`\x. (\x. x) x`, ""}, {`\x. (\y. x) y`, "y"}, {`(\x. \x. x) x`, "x"},
		{"let x = x in x", "x"}, {"let x = y in x", "y"}, {"let x = y in z", "y z"}, {"let x = 1 in x", ""}, {"let x = y x in z x", "y x z"}, {"(let x = 1 in x) x", "x"}, {"let x = let y = x in y in y", "x y"},
		{"let rec x = x in x", ""}, {"let rec x = y in x", "y"}, {"let rec x = x z in x y", "z y"}, {"(let rec x = x in x) x", "x"}, {"let rec x = let y = y in x in y", "y"},
		{"case x of A. y | B. x end", "x y"}, {"case x of A x. x end", "x"}, {"case 1 of A x. x | B. x end", "x"}, {"case 1 of A x. x | B x. x end", ""}, {"case 1 of A x y. y x z end", "z"}, {"case 1 of A x y. 1 | B z. x y z end", "x y"}, {"case q of A x. y | B y. x end", "q y x"}, {"case x of A y z. y w x end", "x w"}, {"(case 1 of A x. x end) x", "x"},
	} {
		if got := strings.Join(Free(exprOf(t, c.src)), " "); got != c.want {
			t.Errorf("Free(%s) = %s; want %s", c.src, got, c.want)
		}
	}
}

// P11.1: Free agrees with the variables that are found path by path, and with what
// scopes make visible (chapter 10).
func TestFreeOfAll(t *testing.T) {
	for _, e := range samples(t) {
		want := freeNames(e)
		if got := Free(e); !slices.Equal(got, want) {
			t.Fatalf("Free(%+v) = %v; want %v", e, got, want)
		}
		for _, path := range paths(e) {
			part := at(e, path)
			if part.Kind == api.ExprVar && !slices.Contains(scope.Visible(e, path), part.Name) && !slices.Contains(want, part.Name) {
				t.Fatalf("%s is not free in %+v", part.Name, e)
			}
		}
	}
}

// P11.1: pairs of expressions.
func TestAlpha(t *testing.T) {
	for _, c := range []struct {
		a, b string
		want bool
	}{
		{`\x. \y. x`, `\a. \b. a`, true}, // the chapter's example
		{"x", "x", true}, {"x", "y", false}, {"x", "X", false}, {"X", "X", true}, {"X", "Y", false}, {"1", "1", true}, {"1", "2", false}, {"?", "?", true}, {"?", "x", false}, {"{?}", "?", false}, {"{x}", "{x}", true}, {"{x}", "{y}", false}, {"  x\n(y )", "x y", true}, {"x y", "y x", false}, {"x y z", "x (y z)", false},
		{`\x. x`, `\y. y`, true}, {`\x. x`, `\y. x`, false}, {`\x. y`, `\y. y`, false}, {`\x. y`, `\z. y`, true}, {`\x. \y. x y`, `\y. \x. y x`, true}, {`\x. \y. x y`, `\x. \y. y x`, false}, {`\x. \x. x`, `\x. \y. y`, true}, {`\x. \x. x`, `\x. \y. x`, false}, {`\x. \y. y`, `\x. \x. x`, true}, {`\x. \y. x`, `\y. \y. y`, false},
		{`\x. (\x. x) x`, `\x. (\y. y) x`, true}, {`\x. (\x. x) x`, `\x. (\y. x) x`, false}, {`(\x. x) x`, `(\y. y) y`, false}, {`(\x. x) z`, `(\y. y) z`, true}, {`\x. \y. \z. x z`, `\z. \x. \y. z y`, true}, {`\x. \y. \z. x z`, `\z. \x. \y. x y`, false}, {`\x. x`, `\x. \x. x`, false},
		{"let x = 1 in x", "let y = 1 in y", true}, {"let x = x in x", "let y = x in y", true}, {"let x = x in x", "let y = y in y", false}, {"let x = 1 in x", "let rec x = 1 in x", false}, {"let x = 1 in x", "let x = 2 in x", false}, {"let x = 1 in z", "let y = 1 in z", true}, {"let x = 1 in y", "let y = 1 in y", false}, {`let x = \x. x in x`, `let y = \z. z in y`, true},
		{"let rec x = x in x", "let rec y = y in y", true}, {"let rec x = x in x", "let rec y = x in y", false}, {"let rec x = y in x", "let rec z = y in z", true}, {"let rec x = y in x", "let rec y = y in y", false}, {"let rec x = 1 in x", "let rec x = 1 in y", false},
		{"case x of A y z. z end", "case x of A z y. y end", true}, {"case x of A y z. z end", "case x of A z y. z end", false}, {"case x of A y. y end", "case y of A y. y end", false}, {"case x of A y. y end", "case x of B y. y end", false}, {"case x of A y. 1 end", "case x of A. 1 end", false}, {"case x of A. 1 end", "case x of A y. 1 end", false}, {"case x of A y. 1 end", "case x of A y z. 1 end", false}, {"case x of A. 1 | B. 2 end", "case x of A. 1 end", false}, {"case x of A. 1 | B. 2 end", "case x of B. 2 | A. 1 end", false}, {"case x of A. 1 | B. 2 end", "case x of A. 1 | B. 1 end", false}, {"case x of A x. x | B y. x end", "case x of A y. y | B y. x end", true}, {"case x of A x. x | B y. x end", "case x of A y. y | B x. x end", false},
		{"(x : Int)", "(x : Int)", true}, {"(x : Int)", "(x : List)", false}, {"(x : Int)", "x", false}, {"(x : a)", "(x : b)", false}, {"(x : A -> B)", "(x : B -> A)", false}, {`\x. (x : a)`, `\a. (a : a)`, true}, {`\x. (x : x)`, `\y. (y : y)`, false}, // types have no bound names
	} {
		a, b := exprOf(t, c.a), exprOf(t, c.b)
		if Alpha(a, b) != c.want || Alpha(b, a) != c.want {
			t.Errorf("Alpha(%s, %s) is not %v", c.a, c.b, c.want)
		}
	}
}

// P11.1 and P11.4: two expressions are alpha-equal exactly if they have the same
// text without names, so that Alpha is an equivalence; and exactly if their
// canonical expressions are equal.
func TestAlphaOfAll(t *testing.T) {
	l := samples(t)
	equal := 0
	for _, part := range [][]api.Expr{l[:500], few(l[500:], 5)} {
		var texts []string
		var canonical []api.Expr
		for _, e := range part {
			texts = append(texts, nameless(e, nil))
			canonical = append(canonical, Canonical(e, []string{"v2", "x"}))
		}
		for i, a := range part {
			for k, b := range part {
				want := texts[i] == texts[k]
				if Alpha(a, b) != want || tree.Equal(canonical[i], canonical[k]) != want {
					t.Fatalf("Alpha(%+v, %+v) = %v; want %v; canonical %+v, %+v", a, b, Alpha(a, b), want, canonical[i], canonical[k])
				}
				if want && !tree.Equal(a, b) {
					equal++
				}
			}
		}
	}
	if equal < 300 {
		t.Errorf("only %d pairs are alpha-equal and different", equal)
	}
}

// P11.1: an expression is alpha-equal to itself with any other names that keep what
// binds its variables, and to none with a different binding.
func TestAlphaOfRenamed(t *testing.T) {
	same, different := 0, 0
	for _, e := range samples(t) {
		_, before := variables(e)
		for _, path := range paths(e) {
			part := at(e, path)
			if part.Kind != api.ExprLam && part.Kind != api.ExprLet && part.Kind != api.ExprRec {
				continue
			}
			for _, name := range []string{"x", "y", "v1", "new"} {
				changed := renameAt(e, binder{slash(path), 0, 0}, path, name)
				_, after := variables(changed)
				want := slices.Equal(before, after)
				if Alpha(e, changed) != want || Alpha(changed, e) != want {
					t.Fatalf("Alpha(%+v, %+v) is not %v", e, changed, want)
				}
				if want {
					same++
				} else {
					different++
				}
			}
		}
	}
	if same < 1000 || different < 100 {
		t.Errorf("%d are the same and %d different", same, different)
	}
}

// renameAt gives a binding occurrence of the part of e at a path, and what refers to
// it, another name, whatever that captures.
func renameAt(e api.Expr, b binder, path []int, name string) api.Expr {
	where, by := variables(e)
	for i := range where {
		if by[i] == b {
			variable := at(e, where[i])
			variable.Name = name
			e = put(e, where[i], variable)
		}
	}
	part := at(e, path)
	if part.Kind == api.ExprCase {
		part.Arms = slices.Clone(part.Arms)
		vars := slices.Clone(part.Arms[b.child-1].Vars)
		vars[b.index] = name
		part.Arms[b.child-1].Vars = vars
	} else {
		part.Name = name
	}
	return put(e, path, part)
}

// P0.4: no function changes its arguments, nor their unused capacity.
func TestArgumentsStay(t *testing.T) {
	for _, e := range few(samples(t), 3) {
		for _, src := range []string{"y", "y v1 (case z of P x y. x end)"} {
			by, taken := exprOf(t, src), append([]string{"v3", "q"}, "mark", "mark")
			first, second := spare(e), spare(by)
			Free(first)
			Alpha(first, second)
			Alpha(first, first)
			Canonical(first, taken[:2])
			Fresh(4, taken[:2])
			Rename(first, "x", "y")
			Subst(first, "x", second)
			Subst(second, "y", first)
			if !intact(first) || !intact(second) || !slices.Equal(taken, []string{"v3", "q", "mark", "mark"}) || !tree.Equal(first, e) || !tree.Equal(second, by) || !slices.Equal(positions(first), positions(e)) || !slices.Equal(positions(second), positions(by)) {
				t.Fatalf("an argument has changed: %+v, %+v, %v", first, second, taken)
			}
		}
	}
}

// P0.1: no function panics for arguments that are not valid.
func TestAllArguments(t *testing.T) {
	l := strange()
	for i, e := range l {
		below, other := e, l[(i*11+3)%len(l)]
		below.Kids = []api.Expr{l[(i+1)%len(l)], l[(i*7+5)%len(l)]}
		for _, x := range []api.Expr{e, below, lam("y", e), {Kind: api.ExprCase, Arms: []api.Arm{{Vars: []string{"y", "y", "x", ""}, Body: below}}}} {
			Free(x)
			for _, y := range []api.Expr{x, e, other, lam("x", other)} {
				Alpha(x, y)
				Alpha(y, x)
			}
			Canonical(x, nil)
			Canonical(x, []string{"", "v1", "x", "v1"})
			for _, by := range []api.Expr{{}, v("y"), v(""), app(v("y"), v("x")), other} {
				Subst(x, "x", by)
				Subst(x, "", by)
			}
			Rename(x, "x", "")
			Rename(x, "", "x")
			Rename(x, "x", "y")
		}
	}
}

// P0.7: the results depend only on the arguments.
func TestAgain(t *testing.T) {
	by := exprOf(t, `y z (\x. v1)`)
	for _, e := range few(samples(t), 5) {
		for range 2 {
			if !slices.Equal(Free(e), Free(e)) || !reflect.DeepEqual(Canonical(e, nil), Canonical(e, nil)) || !reflect.DeepEqual(Subst(e, "x", by), Subst(e, "x", by)) {
				t.Fatalf("the results for %+v differ", e)
			}
		}
	}
}

// P0.8: expressions with many levels, or with many parts, are read to their end.
func TestNested(t *testing.T) {
	const depth = 65000
	same, different, numbered := v("x"), v("x"), v("x")
	for i := range depth {
		same = lam("y", same)
		name := strconv.Itoa(depth - i)
		different = api.Expr{Kind: api.ExprRec, Pos: 3, Name: "w" + name, Kids: []api.Expr{{Kind: api.ExprHole}, different}}
		numbered = api.Expr{Kind: api.ExprRec, Name: "v" + name, Kids: []api.Expr{{Kind: api.ExprHole}, numbered}}
	}
	for _, e := range []api.Expr{same, different} {
		if got := Free(e); !slices.Equal(got, []string{"x"}) {
			t.Errorf("Free has %d names", len(got))
		}
		if !Alpha(e, e) || Alpha(e, Rename(e, "x", "z")) || !Alpha(Rename(e, "x", "z"), Subst(e, "x", v("z"))) {
			t.Error("Alpha is wrong")
		}
	}
	if !Alpha(different, numbered) || !tree.Equal(Canonical(different, nil), numbered) {
		t.Error("Canonical is wrong")
	}
	if got, want := Rename(numbered, "x", "v2"), tree.Depth(numbered); tree.Depth(got) != want || !slices.Equal(Free(got), []string{"v2"}) {
		t.Error("Rename is wrong")
	}
	wide := api.Expr{Kind: api.ExprCase, Kids: []api.Expr{v("x")}}
	for i := range depth {
		wide.Arms = append(wide.Arms, api.Arm{Con: "C", Vars: []string{"y"}, Body: v("f" + strconv.Itoa(i))})
	}
	if !Alpha(wide, wide) || len(Free(wide)) != depth+1 || !Alpha(Canonical(wide, nil), wide) || !slices.Equal(Free(Rename(wide, "x", "y")), append([]string{"y"}, Free(wide)[1:]...)) {
		t.Error("a wide expression is wrong")
	}
}

// P11.1: each field of an expression plays a part in Alpha, apart from positions.
func TestAlphaOfChanged(t *testing.T) {
	base := func() api.Expr { return exprOf(t, `case (f 1 : Int) of C a b. a | D. g end`) }
	for i, change := range []func(e *api.Expr){
		func(e *api.Expr) { e.Kids[0].Kind = api.ExprHeld },
		func(e *api.Expr) { e.Kids[0].Type = types.Con("Num") },
		func(e *api.Expr) { e.Kids[0].Kids[0].Kids[0].Name = "g" },
		func(e *api.Expr) { e.Kids[0].Kids[0].Kids[1].Num = 2 },
		func(e *api.Expr) { e.Arms[0].Con = "D" },
		func(e *api.Expr) { e.Arms[0].Vars = []string{"b", "a"} },
		func(e *api.Expr) { e.Arms[0].Vars = []string{"a"} },
		func(e *api.Expr) { e.Arms[0].Body.Name = "b" },
		func(e *api.Expr) { e.Arms[1].Vars = []string{"c"} },
		func(e *api.Expr) { e.Arms[1].Body.Name = "a" },
		func(e *api.Expr) { e.Arms = e.Arms[:1] },
		func(e *api.Expr) { e.Arms = append(e.Arms, e.Arms[1]) },
	} {
		e := base()
		change(&e)
		if Alpha(e, base()) || Alpha(base(), e) {
			t.Errorf("%d: the change of %+v plays no part", i, e)
		}
	}
	for i, change := range []func(e *api.Expr){
		func(e *api.Expr) { e.Pos = 77 },
		func(e *api.Expr) { e.Arms[1].Pos = math.MaxInt },
		func(e *api.Expr) { e.Kids[0].Kids[0].Pos = 0 },
		func(e *api.Expr) { e.Arms[1].Vars = []string{} },
		func(e *api.Expr) { e.Arms[1].Body.Kids, e.Arms[1].Body.Arms = []api.Expr{}, []api.Arm{} },
		func(e *api.Expr) { e.Kids[0].Type.Args = []api.Type{} },
	} {
		e := base()
		change(&e)
		if !Alpha(e, base()) || !Alpha(base(), e) {
			t.Errorf("%d: the change of %+v plays a part", i, e)
		}
	}
}

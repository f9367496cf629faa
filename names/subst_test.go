package names

import (
	"reflect"
	"slices"
	"testing"

	"typedholes/api"
	"typedholes/show"
	"typedholes/tree"
)

// P11.3: substitutions for x.
func TestSubst(t *testing.T) {
	for _, c := range [][3]string{
		{`\y. x y`, "y", `\v1. y v1`}, // the chapter's example
		{"x", "y", "y"}, {"x", "x", "x"}, {"x", "f x", "f x"}, {"y", "1", "y"}, {"x x", "x y", "x y (x y)"}, {"X", "1", "X"}, {"?", "1", "?"}, {"x {x} (x : Int) ?", "f 1", "f 1 {f 1} (f 1 : Int) ?"}, {"(x : x)", "1", "(1 : x)"},
		// what x itself is bound by
		{`\x. x`, "1", `\x. x`}, {`x (\x. x) x`, "1", `1 (\x. x) 1`}, {`\x. x`, "x", `\x. x`}, {`\x. \y. x`, "y", `\x. \y. x`}, {"let x = x in x", "y", "let x = y in x"}, {"let x = x in x", "f x", "let x = f x in x"}, {"let rec x = x in x", "y", "let rec x = x in x"}, {"let rec x = x in x", "x", "let rec x = x in x"}, {"case x of A x. x | B. x end", "x 1", "case x 1 of A x. x | B. x 1 end"}, {"case x of A x y. x y end", "y", "case y of A x y. x y end"}, {"case x of A y x. x y | B y. x y end", "y", "case y of A y x. x y | B v1. y v1 end"}, {`\y. (\x. x y) y`, "y", `\y. (\x. x y) y`}, {`\y. x (\x. x y)`, "y", `\v1. y (\x. x v1)`}, {`\y. let x = x in \y. x`, "y", `\v1. let x = y in \y. x`},
		// renaming only where something would be captured
		{`\y. y`, "y", `\y. y`}, {`\y. 1`, "y", `\y. 1`}, {`\y. x`, "1", `\y. 1`}, {`\y. x`, `\y. y`, `\y. \y. y`}, {`\y. x y`, `\z. y z`, `\v1. (\z. y z) v1`}, {`\y. x`, "y", `\v1. y`}, {`\y. \y. x`, "y", `\v1. \v1. y`}, {`\y. \y. x y`, "y", `\v1. \v1. y v1`}, {`\y. \y. y`, "y", `\y. \y. y`}, {`\y. x (\y. y)`, "y", `\v1. y (\y. y)`}, {`\y. y (\y. x)`, "y", `\v1. v1 (\v1. y)`}, {`(\y. x) (\y. y)`, "y", `(\v1. y) (\y. y)`},
		{`\y. x`, "z", `\y. z`}, {`\y. \z. x y z`, "z", `\y. \v1. z y v1`}, {`\y. \z. f x (y z)`, "y z", `\v1. \v2. f (y z) (v1 v2)`}, {`\z. \y. x`, "y z", `\v1. \v1. y z`}, {`\y. z x`, "z", `\y. z z`},
		{"let y = x in y", "y", "let y = y in y"}, {"let y = x in x y", "y", "let v1 = y in y v1"}, {"let y = y in x y", "y", "let v1 = y in y v1"}, {`let y = \y. x in y`, "y", `let y = \v1. y in y`}, {`let y = \y. x y in x y`, "y", `let v1 = \v1. y v1 in y v1`},
		{"let rec y = x y in y", "y", "let rec v1 = y v1 in v1"}, {"let rec y = y in x y", "y", "let rec v1 = v1 in y v1"}, {"let rec y = y in y", "y", "let rec y = y in y"}, {`let rec y = \y. y in x y`, "y", `let rec v1 = \y. y in y v1`},
		{"case y of A x. x end", "y", "case y of A x. x end"}, {"case x of A y z. x y z end", "z", "case z of A y v1. z y v1 end"}, {"case x of A y. y | B y. x y end", "y", "case y of A y. y | B v1. y v1 end"}, {"case x of A y z. x y z end", "z y", "case z y of A v1 v2. z y v1 v2 end"}, {"case 1 of A z w y. x y z end", "y z", "case 1 of A v1 w v2. y z v2 v1 end"}, {"case y of A y. y end", "y", "case y of A y. y end"},
		// names that are not new
		{`\y. x v1 y`, "y", `\v2. y v1 v2`}, {`\y. x (\v1. v1) y`, "y", `\v2. y (\v1. v1) v2`}, {`\y. x (\v1. 1) y`, "y", `\v2. y (\v1. 1) v2`}, {`\y. x y`, "y v1", `\v2. y v1 v2`}, {`\y. x y`, `y (\v1. v1)`, `\v1. y (\v1. v1) v1`}, {`v1 (\y. x y)`, "y", `v1 (\v1. y v1)`}, {`\v1. x v1`, "v1", `\v2. v1 v2`}, {`\v1. \v2. x v1 v2`, "v2", `\v1. \v3. v2 v1 v3`}, {`\v1. \v2. x v1 v2`, "v1", `\v3. \v2. v1 v3 v2`}, {`\v2. \v1. x`, "v1 v2", `\v3. \v3. v1 v2`}, {`\y. x V1 v01 v0 v2`, "y", `\v1. y V1 v01 v0 v2`},
		{`\y. \z. x y`, "y z", `\v1. \v2. y z v1`}, {`\y. \z. x z`, "y z", `\v1. \v1. y z v1`}, {`\y. \z. x v2 y`, "y z", `\v1. \v3. y z v2 v1`}, // the outer names are already new
		{"let y = v1 in x y", "y", "let v2 = v1 in y v2"}, {"let y = let v1 = 1 in 1 in x y", "y", "let v2 = let v1 = 1 in 1 in y v2"}, {"let rec y = 1 in let rec v1 = 1 in x y", "y", "let rec v2 = 1 in let rec v1 = 1 in y v2"},
		{"case v1 of A y. x y end", "y", "case v1 of A v1. y v1 end"}, {"case 1 of A y. x y | B v1. v1 end", "y", "case 1 of A v1. y v1 | B v1. v1 end"}, {"case 1 of A y v1. x y end", "y", "case 1 of A v2 v1. y v2 end"}, {"case 1 of A v2 y v1 z. x y z end", "y z", "case 1 of A v2 v3 v1 v4. y z v3 v4 end"}, {"case 1 of A y z. x end", "y z", "case 1 of A v1 v2. y z end"}, {"case 1 of A y. case v1 of A y. x end end", "y", "case 1 of A v2. case v1 of A v1. y end end"}, {`\y. case 1 of V1. x | A v1. v1 end`, "y", `\v2. case 1 of V1. y | A v1. v1 end`},
		{`\y. (x : v1)`, "y", `\v1. (y : v1)`}, // the names of types are no variables
		{`{\y. {x}}`, "y", `{\v1. {y}}`}, {`\y. (x : Int) ? 1`, "y", `\v1. (y : Int) ? 1`},
	} {
		if got := show.Expr(Subst(exprOf(t, c[0]), "x", exprOf(t, c[1]))); got != c[2] {
			t.Errorf("Subst(%s, x, %s) = %s; want %s", c[0], c[1], got, c[2])
		}
	}
}

// P11.3: the name that is replaced can be one of v1, v2, ..
func TestSubstNumbered(t *testing.T) {
	for _, c := range [][4]string{
		{`\y. v1 y`, "v1", "y", `\v2. y v2`}, {`\y. v1`, "v1", "y", `\v2. y`}, {`\v1. v2 v1`, "v2", "v1", `\v3. v1 v3`}, {`\v1. v1 v2`, "v1", "v2", `\v1. v1 v2`}, {"case v1 of A y v2. v1 y end", "v1", "y", "case y of A v3 v2. y v3 end"},
	} {
		if got := show.Expr(Subst(exprOf(t, c[0]), c[1], exprOf(t, c[2]))); got != c[3] {
			t.Errorf("Subst(%s, %s, %s) = %s; want %s", c[0], c[1], c[2], got, c[3])
		}
	}
}

// substituted is Subst, found in the second way: for one binding occurrence after
// the other, from the outside to the inside, the rule of the chapter is applied to
// the whole expression; then the variables are replaced.
func substituted(e api.Expr, name string, by api.Expr) api.Expr {
	taken := freeNames(by)
	for _, path := range paths(e) {
		for _, b := range bindersAt(e, path) {
			if slices.Contains(taken, nameOf(e, path, b)) && isFreeInScope(e, name, b) {
				e = renameAt(e, b, path, newNameAt(e, path, b, append(slices.Clone(taken), name)))
			}
		}
	}
	where, binders := variables(e)
	for i, path := range where {
		if binders[i] == free && at(e, path).Name == name {
			e = put(e, path, by)
		}
	}
	return e
}

// bindersAt lists the binding occurrences of the part of e at a path.
func bindersAt(e api.Expr, path []int) []binder {
	part := at(e, path)
	var out []binder
	switch part.Kind {
	case api.ExprLam, api.ExprLet, api.ExprRec:
		out = append(out, binder{slash(path), 0, 0})
	}
	for i, a := range part.Arms {
		for k := range a.Vars {
			out = append(out, binder{slash(path), i + 1, k})
		}
	}
	return out
}

func nameOf(e api.Expr, path []int, b binder) string {
	if b.child > 0 {
		return at(e, path).Arms[b.child-1].Vars[b.index]
	}
	return at(e, path).Name
}

// isFreeInScope reports whether a variable that is free in e occurs in the scope of
// a binding occurrence.
func isFreeInScope(e api.Expr, name string, b binder) bool {
	where, by := variables(e)
	for i, path := range where {
		around, _ := scopes(e, path)
		if by[i] == free && at(e, path).Name == name && slices.Contains(around, b) {
			return true
		}
	}
	return false
}

// newNameAt returns the first new name for a binding occurrence.
func newNameAt(e api.Expr, path []int, b binder, taken []string) string {
	part := at(e, path)
	if b.child > 0 {
		arm := part.Arms[b.child-1]
		taken = append(taken, arm.Vars...)
		part = arm.Body
	}
	for _, path := range paths(part) {
		inside := at(part, path)
		taken = append(taken, inside.Name)
		for _, a := range inside.Arms {
			taken = append(taken, a.Vars...)
		}
	}
	return freshName(0, taken)
}

// P11.3 and P11.4: Subst follows the rule of the chapter, captures nothing, and
// leaves the free names that it must.
func TestSubstOfAll(t *testing.T) {
	l := samples(t)
	changed := 0
	for i, src := range []string{"y", "v1", "x", "1", "y z", "f x y", `\y. y z v2`, "z v1 v2 y", "case y of P v1 z. z v1 v2 end", "let y = y in x"} {
		by := exprOf(t, src)
		for _, e := range few(l[i:], 7) {
			for _, name := range []string{"x", "v1"} {
				got, want := Subst(e, name, by), substituted(e, name, by)
				if !tree.Equal(got, want) {
					t.Fatalf("Subst(%s, %s, %s) = %s; want %s", show.Expr(e), name, src, show.Expr(got), show.Expr(want))
				}
				if nameless(got, nil) != nameless(e, map[string]string{name: nameless(by, nil)}) {
					t.Fatalf("Subst(%s, %s, %s) = %s", show.Expr(e), name, src, show.Expr(got))
				}
				if !sameSet(freeNames(got), freeAfter(e, name, by)) {
					t.Fatalf("Free of Subst(%s, %s, %s) = %v", show.Expr(e), name, src, freeNames(got))
				}
				if len(got.Kids)+len(got.Arms) > 0 && slices.Contains(freeNames(e), name) && got.Name != e.Name {
					changed++
				}
			}
		}
	}
	if changed < 100 {
		t.Errorf("only %d expressions begin with a new name", changed)
	}
}

// freeAfter lists the names that are free after a substitution.
func freeAfter(e api.Expr, name string, by api.Expr) []string {
	l := freeNames(e)
	if !slices.Contains(l, name) {
		return l
	}
	l = slices.DeleteFunc(l, func(other string) bool { return other == name })
	return append(l, freeNames(by)...)
}

func sameSet(a, b []string) bool {
	within := func(a, b []string) bool {
		return !slices.ContainsFunc(a, func(name string) bool { return !slices.Contains(b, name) })
	}
	return within(a, b) && within(b, a)
}

// P11.3: alpha-equal expressions lead to alpha-equal ones.
func TestSubstOfCanonical(t *testing.T) {
	for _, src := range []string{"y", "v1 v2", `z (\x. v1)`} {
		by := exprOf(t, src)
		for _, e := range few(samples(t), 2) {
			a, b := Subst(e, "x", by), Subst(Canonical(e, []string{"v2"}), "x", Canonical(by, nil))
			if !Alpha(a, b) {
				t.Fatalf("Subst(%s, x, %s) is %s and %s", show.Expr(e), src, show.Expr(a), show.Expr(b))
			}
		}
	}
}

// P11.3: Rename is Subst by a variable.
func TestRename(t *testing.T) {
	for _, c := range [][4]string{
		{`f (\g. f g)`, "f", "g", `g (\v1. g v1)`}, {"x y", "x", "y", "y y"}, {"x y", "z", "y", "x y"}, {"x", "x", "x", "x"}, {`\x. x y`, "y", "y", `\x. x y`}, {`\x. x`, "x", "y", `\x. x`}, {`\x. x y`, "y", "x", `\v1. v1 x`}, {`\x. y`, "y", "x", `\v1. x`}, {"let rec x = y in x", "y", "x", "let rec v1 = x in v1"}, {"let x = y in x", "y", "x", "let x = x in x"}, {"case y of A x. y x | B. y end", "y", "x", "case x of A v1. x v1 | B. x end"}, {`\v1. v1 y`, "y", "v1", `\v2. v2 v1`}, {`\v2. v2 y`, "y", "v1", `\v2. v2 v1`},
	} {
		if got := show.Expr(Rename(exprOf(t, c[0]), c[1], c[2])); got != c[3] {
			t.Errorf("Rename(%s, %s, %s) = %s; want %s", c[0], c[1], c[2], got, c[3])
		}
	}
	for _, e := range few(samples(t), 2) {
		for _, names := range [][2]string{{"x", "y"}, {"y", "v1"}, {"z", "new"}, {"v1", "v1"}, {"v2", "x"}} {
			if got, want := Rename(e, names[0], names[1]), Subst(e, names[0], v(names[1])); !reflect.DeepEqual(got, want) {
				t.Fatalf("Rename(%s, %v) = %s; want %s", show.Expr(e), names, show.Expr(got), show.Expr(want))
			}
		}
	}
}

// P0.9: parts of the arguments keep their positions, and new ones have the
// position 0.
func TestSubstPositions(t *testing.T) {
	e, by := exprOf(t, `f (\y. x (g y))`), exprOf(t, "   y 1")
	got := Subst(e, "x", by)
	if show.Expr(got) != `f (\v1. y 1 (g v1))` {
		t.Fatalf("Subst = %s", show.Expr(got))
	}
	for _, c := range []struct {
		path []int
		pos  int
	}{
		{nil, 0}, {[]int{0}, 0}, {[]int{1}, 3}, {[]int{1, 0, 0}, 3}, {[]int{1, 0, 0, 0}, 3}, {[]int{1, 0, 0, 1}, 5}, {[]int{1, 0, 1, 0}, 10}, {[]int{1, 0, 1, 1}, 0},
	} {
		if part := at(got, c.path); part.Pos != c.pos {
			t.Errorf("the part at %v has the position %d; want %d", c.path, part.Pos, c.pos)
		}
	}
	for _, e := range samples(t) {
		if got := Subst(e, "other", by); !slices.Equal(positions(got), positions(e)) || !tree.Equal(got, e) {
			t.Fatalf("Subst(%+v) of a name that does not occur = %+v", e, got)
		}
	}
}

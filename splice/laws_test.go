package splice

import (
	"math"
	"reflect"
	"slices"
	"testing"

	"typedholes/api"
	"typedholes/names"
	"typedholes/readprogram"
	"typedholes/scope"
	"typedholes/show"
	"typedholes/tree"
)

// P12.4: the number of holes, and that nothing but the hole changes: no name is
// renamed, and the part at the place of the hole is the expression.
func TestCountOfFill(t *testing.T) {
	count := 0
	for _, src := range few(samples(), 2) {
		p := programOf(t, src)
		for h := range Count(p) {
			bind, path, _ := Find(p, h)
			for _, filler := range fillers() {
				e := exprOf(t, filler)
				q, err := Fill(p, h, e)
				if err != api.OK {
					continue
				}
				count++
				if got, want := Count(q), Count(p)-1+len(tree.Holes(e)); got != want {
					t.Fatalf("Fill(%s, %d, %s) has %d holes; want %d", src, h, filler, got, want)
				}
				part, _ := tree.At(q.Binds[bind].Body, path)
				before := tree.StripProgram(p)
				rest, _ := tree.Put(q.Binds[bind].Body, path, hole())
				q.Binds = slices.Clone(q.Binds)
				q.Binds[bind].Body = rest
				if !tree.Equal(part, e) || !tree.EqualProgram(q, before) {
					t.Fatalf("Fill(%s, %d, %s) changes something else: %s", src, h, filler, show.Program(q))
				}
				held, err := Hold(p, h, e)
				if err != api.OK || Count(held) != Count(p)-1+len(tree.Holes(e)) {
					t.Fatalf("Hold(%s, %d, %s) = %s, %d", src, h, filler, show.Program(held), err)
				}
			}
		}
	}
	if count < 1000 {
		t.Errorf("only %d fillings", count)
	}
}

// P12.4: Fill with a hole changes nothing except positions.
func TestFillWithHole(t *testing.T) {
	for _, src := range samples() {
		p := programOf(t, src)
		for h := range Count(p) {
			e := hole()
			e.Pos = 5
			if q, err := Fill(p, h, e); err != api.OK || !reflect.DeepEqual(q, tree.StripProgram(p)) {
				t.Fatalf("Fill(%s, %d, ?) = %+v, %d", src, h, q, err)
			}
		}
	}
}

// P12.4: at the place of the hole every name means what Names says, also inside of
// the expression; at the other holes, nothing changes.
func TestNamesOfFill(t *testing.T) {
	for i, src := range samples() {
		p := programOf(t, src)
		for h := range Count(p) {
			before := namesAtHoles(p)
			for _, c := range []struct {
				e    string
				want [][]string
			}{
				{"1", nil}, {"? {?}", [][]string{before[h], before[h]}}, {`\x. ?`, [][]string{hide(before[h], "x")}}, {"let rec new = ? in let f = ? in ?", [][]string{hide(before[h], "new"), hide(before[h], "new"), hide(before[h], "new", "f")}},
			} {
				want := slices.Concat(before[:h], c.want, before[h+1:])
				for k, do := range []func(api.Program, int, api.Expr) (api.Program, api.Errno){Fill, Hold} {
					if (i+k)%2 != 0 {
						continue
					}
					q, err := do(p, h, exprOf(t, c.e))
					if err != api.OK {
						t.Fatalf("filling %d of %s with %s fails: %d", h, src, c.e, err)
					}
					for j := range want {
						if got, err := Names(q, j); !slices.Equal(got, want[j]) || err != api.OK {
							t.Fatalf("Names(%s, %d) = %v, %d; want %v", show.Program(q), j, got, err, want[j])
						}
					}
				}
			}
		}
	}
}

// P12.4: after Fill, a program without errors has none, and what is free in the
// expression is visible at the hole.
func TestScopesOfFill(t *testing.T) {
	count := 0
	for _, src := range samples() {
		p := programOf(t, src)
		if scope.Check(p).Err != api.OK {
			continue
		}
		for h := range Count(p) {
			visible, _ := Names(p, h)
			for _, filler := range fillers() {
				e := exprOf(t, filler)
				q, err := Fill(p, h, e)
				if err != api.OK {
					continue
				}
				count++
				if f := scope.Check(q); f.Err != api.OK {
					t.Fatalf("Fill(%s, %d, %s) has the error %+v", src, h, filler, f)
				}
				for _, name := range names.Free(e) {
					if !slices.Contains(visible, name) {
						t.Fatalf("Fill(%s, %d, %s) succeeds without %s", src, h, filler, name)
					}
				}
				if again, f := readprogram.Parse(show.Program(q)); f.Err != api.OK || !tree.EqualProgram(again, q) {
					t.Fatalf("Fill(%s, %d, %s) cannot be read again: %+v", src, h, filler, f)
				}
			}
		}
	}
	if count < 300 {
		t.Errorf("only %d fillings", count)
	}
}

// P12.4: two holes can be filled in either order.
func TestFillTwice(t *testing.T) {
	texts := []string{"x", "1", "?", "? ?", `\y. f ?`, "{?}", "let x = ? in x"}
	count := 0
	for i, src := range samples() {
		p := programOf(t, src)
		for second := range Count(p) {
			for first := range second {
				a, b := exprOf(t, texts[(i+first)%len(texts)]), exprOf(t, texts[(i/2+second)%len(texts)])
				q, err := Fill(p, first, a)
				if err != api.OK {
					continue
				}
				one, err := Fill(q, second-1+len(tree.Holes(a)), b)
				r, other := Fill(p, second, b)
				if err != other {
					t.Fatalf("the second filling of %s has the error %d or %d", src, err, other)
				}
				if err != api.OK {
					continue
				}
				two, err := Fill(r, first, a)
				if err != api.OK || !reflect.DeepEqual(one, two) {
					t.Fatalf("fillings of %d and %d of %s: %s and %s", first, second, src, show.Program(one), show.Program(two))
				}
				count++
			}
		}
	}
	if count < 300 {
		t.Errorf("only %d pairs of fillings", count)
	}
}

// P0.4: no function changes its arguments, nor their unused capacity, and what is
// appended to a result changes no argument.
func TestArgumentsStay(t *testing.T) {
	for _, src := range few(samples(), 5) {
		p := spareProgram(programOf(t, src))
		before := opened(p)
		for _, filler := range []string{"x", "? (\\x. x) ?", "case ? of N. ? | S y. y end", "nowhere"} {
			e := spareExpr(exprOf(t, filler))
			beforeExpr := openedExpr(e)
			for h := -1; h <= Count(p); h++ {
				_, path, _ := Find(p, h)
				l, _ := Names(p, h)
				for i := range path {
					path[i] = -5
				}
				for i := range l {
					l[i] = "changed"
				}
				_, _ = append(path, 7), append(l, "appended")
				q, _ := Fill(p, h, e)
				r, _ := Hold(p, h, e)
				for _, result := range []api.Program{q, r} {
					result.Binds = append(result.Binds, api.Bind{Name: "appended"})
					result.Datas = append(result.Datas, api.Data{Name: "Appended"})
				}
				if !reflect.DeepEqual(opened(p), before) || !reflect.DeepEqual(openedExpr(e), beforeExpr) {
					t.Fatalf("the arguments of filling %d of %s with %s have changed", h, src, filler)
				}
			}
		}
	}
}

// P0.1: no function panics for arguments that are not valid.
func TestAllArguments(t *testing.T) {
	l := strange()
	good := programOf(t, "data O a = N | S a; let x = ?; let rec y = \\z. ?;")
	for i, e := range l {
		below := e
		below.Kids = []api.Expr{l[(i+1)%len(l)], l[(i*7+5)%len(l)], hole()}
		for _, body := range []api.Expr{e, below} {
			p := api.Program{
				Datas: []api.Data{{}, {Pos: -1, Name: "->", Params: []string{"", ""}, Constructors: []api.Constructor{{}, {Name: "E", Fields: make([]api.Type, 300)}}}},
				Binds: []api.Bind{{Name: "x", HasSig: true, Body: body}, {Rec: true, Sig: api.Type{Kind: -1}, Body: e}, {Pos: math.MinInt, Body: below}},
			}
			for h := -1; h <= Count(p); h++ {
				Find(p, h)
				Names(p, h)
				for _, by := range []api.Expr{e, below, hole(), {Kind: api.ExprInt, Num: 1}} {
					Fill(p, h, by)
					Hold(p, h, by)
				}
			}
			for h := range 2 {
				Fill(good, h, body)
				Hold(good, h, body)
			}
		}
	}
	for _, p := range []api.Program{{}, {Binds: []api.Bind{{}}}} {
		noHole(t, p, 0)
		if got := Count(p); got != 0 {
			t.Errorf("Count(%+v) = %d", p, got)
		}
	}
}

// P0.8: very deep expressions are refused in the order of the chapter.
func TestVeryDeep(t *testing.T) {
	p := programOf(t, "let x = 1; let y = ?;")
	for _, c := range []struct {
		e    api.Expr
		want api.Errno
	}{
		{v("x"), api.ErrDepth}, {v("z"), api.ErrScope}, {v("Z"), api.ErrForm},
	} {
		refuses(t, p, 0, wrapped(1<<16-2, c.e), c.want)
	}
}

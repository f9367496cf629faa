package splice

import (
	"math"
	"reflect"
	"slices"
	"strings"
	"testing"

	"typedholes/api"
	"typedholes/scope"
	"typedholes/show"
	"typedholes/tree"
	"typedholes/types"
)

// fills checks a filling of a program of one line for each binding.
func fills(t *testing.T, src string, h int, e, want string, do func(api.Program, int, api.Expr) (api.Program, api.Errno)) {
	t.Helper()
	got, err := do(programOf(t, src), h, exprOf(t, e))
	if text := strings.ReplaceAll(show.Program(got), "\n", " "); text != want || err != api.OK {
		t.Errorf("filling %d of %s with %s = %s, %d; want %s", h, src, e, text, err, want)
	}
}

// P12.3: programs with an expression in place of a hole.
func TestFill(t *testing.T) {
	for _, c := range []struct {
		src     string
		h       int
		e, want string
	}{
		{"let x = ?;", 0, "1", "let x = 1; "},
		{"let x = ?;", 0, `\x. x`, `let x = \x. x; `},
		{"let x = ?; let y = \\x. ? x;", 0, "\\z. (z : Int)", "let x = \\z. (z : Int); let y = \\x. ? x; "},
		{"let x = ?; let y = \\x. ? x;", 1, "x", "let x = ?; let y = \\x. x x; "},
		{"let x = ?; let y = \\x. ? x;", 1, `\x. x`, "let x = ?; let y = \\x. (\\x. x) x; "}, // the inner x is the inner one
		{"let rec f = \\x. ?;", 0, "f (f x)", "let rec f = \\x. f (f x); "},
		{"let x = ?; let y = ? ?;", 2, "x ?", "let x = ?; let y = ? (x ?); "},
		{"data O = N | S Int; let x : O = case ? of N. ? | S a. ? end;", 1, "S 1", "data O = N | S Int; let x : O = case ? of N. S 1 | S a. ? end; "},
		{"data O = N | S Int; let x : O = case ? of N. ? | S a. ? end;", 2, "let rec b = S a in b", "data O = N | S Int; let x : O = case ? of N. ? | S a. let rec b = S a in b end; "},
		{"data O = N | S Int; let x = {(? : O)};", 0, "case N of N. ? | S x. (N : O) end", "data O = N | S Int; let x = {(case N of N. ? | S x. (N : O) end : O)}; "},
		{"let x = ?; let z = 1;", 0, "{?} 2", "let x = {?} 2; let z = 1; "},
	} {
		fills(t, c.src, c.h, c.e, c.want, Fill)
	}
}

// P12.3: programs with a held expression in place of a hole.
func TestHold(t *testing.T) {
	for _, c := range []struct {
		src     string
		h       int
		e, want string
	}{
		{"let x = ?;", 0, "?", "let x = {?}; "},
		{"let x = ?; let y = \\x. ? x;", 1, "x ?", "let x = ?; let y = \\x. {x ?} x; "},
		{"let x = {?};", 0, "{1}", "let x = {{{1}}}; "},
		{"let x = ? 1;", 0, `\y. y`, `let x = {\y. y} 1; `},
	} {
		fills(t, c.src, c.h, c.e, c.want, Hold)
	}
}

// scopeError is the error of an expression where names are visible, found in the
// second way: as a binding of a program that has bindings with these names.
func scopeError(datas []api.Data, names []string, e api.Expr) api.Errno {
	p := api.Program{Datas: datas}
	for _, name := range names {
		p.Binds = append(p.Binds, api.Bind{Name: name, Body: hole()})
	}
	p.Binds = append(p.Binds, api.Bind{Name: "last", Body: e})
	return scope.Check(p).Err
}

// P12.3: Fill agrees with the text of the program, in which the text of the
// expression replaces the question mark; Hold likewise.
func TestFillInTexts(t *testing.T) {
	count := map[api.Errno]int{}
	for i, src := range samples() {
		p := programOf(t, src)
		names := namesAtHoles(p)
		for h, offset := range offsets(src) {
			for k, filler := range fillers() {
				if (i+h+k)%3 != 0 {
					continue
				}
				e := exprOf(t, "  "+filler)
				wantErr := scopeError(p.Datas, names[h], e)
				count[wantErr]++
				for _, c := range []struct {
					open, close string
					do          func(api.Program, int, api.Expr) (api.Program, api.Errno)
				}{{"(", ")", Fill}, {"{", "}", Hold}} {
					var want api.Program
					if wantErr == api.OK {
						want = tree.StripProgram(programOf(t, src[:offset]+c.open+filler+c.close+src[offset+1:]))
					}
					got, err := c.do(p, h, e)
					if err != wantErr || !tree.EqualProgram(got, want) {
						t.Fatalf("filling %d of %s with %s%s = %s, %d; want %s, %d", h, src, c.open, filler, show.Program(got), err, show.Program(want), wantErr)
					}
					if !isStripped(got) {
						t.Fatalf("filling %d of %s with %s is not stripped: %+v", h, src, filler, got)
					}
				}
			}
		}
	}
	for _, err := range []api.Errno{api.OK, api.ErrScope, api.ErrArms, api.ErrArity, api.ErrDuplicate, api.ErrType} {
		if count[err] < 100 {
			t.Errorf("only %d fillings with the error %d", count[err], err)
		}
	}
}

// isStripped reports whether all positions of a program are 0.
func isStripped(p api.Program) bool {
	for _, data := range p.Datas {
		if data.Pos != 0 || slices.ContainsFunc(data.Constructors, func(c api.Constructor) bool { return c.Pos != 0 }) {
			return false
		}
	}
	for _, bind := range p.Binds {
		if bind.Pos != 0 || !isStrippedExpr(bind.Body) {
			return false
		}
	}
	return true
}

func isStrippedExpr(e api.Expr) bool {
	if e.Pos != 0 {
		return false
	}
	for _, kid := range e.Kids {
		if !isStrippedExpr(kid) {
			return false
		}
	}
	for _, arm := range e.Arms {
		if arm.Pos != 0 || !isStrippedExpr(arm.Body) {
			return false
		}
	}
	return true
}

// P12.3: expressions that are not valid, also inside of others.
func TestFillForm(t *testing.T) {
	p := programOf(t, "let x = 1; let y = \\z. ?;")
	bad := []api.Expr{
		{}, {Kind: api.ExprHeld + 1}, {Kind: -1}, {Kind: api.ExprVar}, v("X"), v("let"), v("abcdefghijklm"), {Kind: api.ExprVar, Name: "x", Pos: -1}, {Kind: api.ExprVar, Name: "x", Num: 1}, {Kind: api.ExprHole, Name: "x"}, {Kind: api.ExprHole, Kids: []api.Expr{hole()}}, {Kind: api.ExprInt, Num: -1}, {Kind: api.ExprInt, Num: 1000000000}, {Kind: api.ExprLam, Name: "x"}, {Kind: api.ExprApp, Kids: []api.Expr{v("x")}}, {Kind: api.ExprCase, Kids: []api.Expr{v("x")}}, {Kind: api.ExprAnn, Kids: []api.Expr{v("x")}, Type: types.Var(0)}, {Kind: api.ExprAnn, Kids: []api.Expr{v("x")}},
		{Kind: api.ExprCase, Kids: []api.Expr{v("x")}, Arms: []api.Arm{{Con: "A", Vars: []string{"a", "b", "c", "d", "e"}, Body: v("x")}}},
		{Kind: api.ExprCase, Kids: []api.Expr{v("x")}, Arms: []api.Arm{{Con: "A", Pos: -1, Body: v("x")}}},
	}
	for _, e := range bad {
		for _, whole := range []api.Expr{e, lam("x", e), {Kind: api.ExprApp, Kids: []api.Expr{v("nowhere"), e}}, {Kind: api.ExprHeld, Kids: []api.Expr{e}}} {
			refuses(t, p, 0, whole, api.ErrForm)
		}
	}
}

// refuses checks an error of Fill and Hold.
func refuses(t *testing.T, p api.Program, h int, e api.Expr, want api.Errno) {
	t.Helper()
	for _, do := range []func(api.Program, int, api.Expr) (api.Program, api.Errno){Fill, Hold} {
		if got, err := do(p, h, e); err != want || len(got.Datas)+len(got.Binds) > 0 {
			t.Errorf("filling with %.200s = %.200s, %d; want the error %d", show.Expr(e), show.Program(got), err, want)
		}
	}
}

// P12.3: of several errors, the first one of the list is returned.
func TestFillOrder(t *testing.T) {
	p := programOf(t, "data O a = N | S a; let x = 1; let y = \\z. ?;")
	invalid, free := api.Expr{}, v("nowhere")
	deep, deepType, long := wrapped(api.MaxDepth+1, v("x")), annotated(api.MaxDepth+1), wide(api.MaxSource)
	for _, h := range []int{-1, 1, math.MaxInt} {
		for _, e := range []api.Expr{invalid, free, deep, deepType, long, app(long, deep, free, invalid)} {
			refuses(t, p, h, e, api.ErrIndex)
		}
	}
	for _, c := range []struct {
		e    api.Expr
		want api.Errno
	}{
		{app(long, deep, deepType, free, invalid), api.ErrForm},
		{app(long, deep, deepType, free), api.ErrScope},
		{app(long, deep, deepType, exprOf(t, "U"), exprOf(t, "(1 : a)")), api.ErrScope},
		{app(long, deep, deepType, exprOf(t, "(1 : a)"), free), api.ErrType},
		{app(long, deep, deepType, exprOf(t, "(1 : O)"), free), api.ErrArity},
		{app(long, deep, deepType, exprOf(t, "case N of N. 1 end"), free), api.ErrArms},
		{app(long, deep, deepType, exprOf(t, "case N of N. 1 | S. 1 end"), free), api.ErrArity},
		{app(long, deep), api.ErrDepth},
		{app(long, deepType), api.ErrDepth},
		{app(long, v("x")), api.ErrLong},
	} {
		refuses(t, p, 0, c.e, c.want)
	}
}

// P12.3: the limits of depth, which are those of the whole body and of the types in
// the expression.
func TestFillDepth(t *testing.T) {
	for at := range api.MaxDepth + 1 {
		p := api.Program{Binds: []api.Bind{{Name: "y", Body: wrapped(at, hole())}}}
		for _, c := range []struct {
			depth int
			want  api.Errno
		}{{api.MaxDepth - at, api.OK}, {api.MaxDepth - at + 1, api.ErrDepth}, {api.MaxDepth - at + 2, api.ErrDepth}} {
			if _, err := Fill(p, 0, wrapped(c.depth, exprOf(t, "1"))); err != c.want {
				t.Errorf("Fill at the depth %d with the depth %d = %d; want %d", at, c.depth, err, c.want)
			}
			if c.depth == 0 {
				continue
			}
			// Here the held expression counts.
			if _, err := Hold(p, 0, wrapped(c.depth-1, exprOf(t, "1"))); err != c.want {
				t.Errorf("Hold at the depth %d with the depth %d = %d; want %d", at, c.depth-1, err, c.want)
			}
		}
	}
	p := programOf(t, "let x = ?; let y = ? ("+strings.Repeat(`\x. `, api.MaxDepth-1)+"?);")
	if _, err := Fill(p, 1, wrapped(api.MaxDepth-1, v("x"))); err != api.OK {
		t.Errorf("Fill beside a deep part = %d", err)
	}
	if _, err := Fill(p, 2, v("x")); err != api.OK {
		t.Errorf("Fill of a hole at the limit = %d", err)
	}
	refuses(t, p, 1, wrapped(api.MaxDepth, v("x")), api.ErrDepth)
	refuses(t, p, 2, lam("x", v("x")), api.ErrDepth)
	for _, h := range []int{0, 1} {
		for _, e := range []api.Expr{annotated(api.MaxDepth), lam("x", annotated(api.MaxDepth))} {
			if _, err := Fill(p, h, e); err != api.OK {
				t.Errorf("Fill with a type at the limit = %d", err)
			}
		}
		for _, e := range []api.Expr{annotated(api.MaxDepth + 1), lam("x", annotated(api.MaxDepth+1)), {Kind: api.ExprApp, Kids: []api.Expr{hole(), annotated(api.MaxDepth + 7)}}} {
			refuses(t, p, h, e, api.ErrDepth)
		}
	}
}

// P12.3: the limit of the text, which is the canonical one of the whole result.
func TestFillLong(t *testing.T) {
	for _, c := range []struct {
		src string
		h   int
	}{
		{"let x = ?;", 0}, {"data D = A | B Int; let x : Int = ?; let rec y = {?};", 1}, {"let x=1;let y=case ? of A.?end;data D=A;", 0}, {"let     x     =   ((?))     ;     # a text that is longer than the canonical one", 0},
	} {
		p := programOf(t, c.src)
		room := api.MaxSource - len(show.Program(p)) + 1 // that of the hole counts
		for _, extra := range []int{-1, 0, 1, 2} {
			e, wantErr := wide(room-2+extra), api.OK
			if extra > 0 {
				wantErr = api.ErrLong
			}
			got, err := Hold(p, c.h, e)
			if err != wantErr || err == api.OK && len(show.Program(got)) != api.MaxSource+extra {
				t.Errorf("Hold of %s with %d bytes too many = %d; want %d", c.src, extra, err, wantErr)
			}
			filled, err := Fill(p, c.h, held(e))
			if err != wantErr || !reflect.DeepEqual(filled, got) {
				t.Errorf("Fill of %s with %d bytes too many = %d; want %d", c.src, extra, err, wantErr)
			}
			if _, err := Fill(p, c.h, held(wide(room-2+extra-1))); (err == api.OK) != (extra <= 1) {
				t.Errorf("Fill of %s with %d bytes too many = %d", c.src, extra-1, err)
			}
		}
	}
	p := programOf(t, "let x = ?;")
	if _, err := Fill(p, 0, wide(api.MaxSource-len("let x = ;\n"))); err != api.OK {
		t.Errorf("Fill at the limit = %d", err)
	}
	if _, err := Fill(p, 0, wide(api.MaxSource-len("let x = ;\n")+1)); err != api.ErrLong {
		t.Errorf("Fill beyond the limit = %d", err)
	}
}

// P12.3: the canonical text can be too long before.
func TestFillLongBefore(t *testing.T) {
	for _, extra := range []int{-1, 0, 1} {
		e := wide(api.MaxSource - len("let x = ?;\nlet y = ;\n") + extra)
		p := programOf(t, "let x=?;let y="+strings.ReplaceAll(show.Expr(e), "} {", "}{")+";")
		if len(show.Program(p)) != api.MaxSource+extra {
			t.Fatalf("the canonical text has %d bytes", len(show.Program(p)))
		}
		wantErr := api.OK
		if extra > 0 {
			wantErr = api.ErrLong
		}
		if _, err := Fill(p, 0, hole()); err != wantErr {
			t.Errorf("Fill of a program with %d bytes too many = %d", extra, err)
		}
	}
}

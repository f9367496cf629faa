package scope

import (
	"math"
	"reflect"
	"slices"
	"strconv"
	"strings"
	"testing"

	"typedholes/api"
	"typedholes/readprogram"
	"typedholes/tree"
	"typedholes/types"
)

// P10.4: what is visible at the holes of an expression, in order.
func TestVisible(t *testing.T) {
	for _, c := range []struct {
		src  string
		want string // for each hole, separated by commas
	}{
		{"?", ""}, {"f ?", ""}, {"{?}", ""}, {"(? : Int)", ""},
		{`\x. ?`, "x"}, {`\x. \y. ?`, "x y"}, {`\y. \x. ?`, "y x"}, {`(\x. ?) ?`, "x,"}, {`? (\x. ?)`, ",x"}, {`\x. (\y. ?) (\z. ?)`, "x y,x z"},
		{`\x. let y = ? in ?`, "x,x y"}, // the chapter's example
		{"let x = ? in ?", ",x"}, {"let rec x = ? in ?", "x,x"}, {"let x = let y = ? in ? in ?", ",y,x"}, {"let rec x = let rec y = ? in ? in ?", "x y,x y,x"}, {"let x = let rec y = ? in ? in let z = ? in ?", "y,y,x,x z"}, {"let rec x = let y = ? in ? in ?", "x,x y,x"},
		{"case ? of A. ? | B x. ? | C x y. ? end", ",,x,x y"}, {"case ? of C y x. ? end", ",y x"}, {`\z. case \y. ? of B x. {?} | C a b. (? : Int) end`, "z y,z x,z a b"}, {"case case ? of A x. ? end of B y. case ? of A z. ? end end", ",x,y,y z"},
		// Names that are bound again.
		{`\x. \x. ?`, "x"}, {`\x. \y. \x. ?`, "y x"}, {`\x. \y. \y. ?`, "x y"}, {`\x. \y. \z. \y. ?`, "x z y"}, {`\x. \y. \x. \y. ?`, "x y"}, {`\x. \y. \y. \x. ?`, "y x"}, {`\x. \y. let x = ? in ?`, "x y,y x"}, {`\x. \y. let rec x = ? in ?`, "y x,y x"}, {`\x. \y. case ? of A x. ? | B y x. ? | C. ? | D z. ? end`, "x y,y x,y x,x y,x y z"}, {`\x. \y. \z. case ? of B y x. ? end`, "x y z,z y x"}, {`\x. \y. (\x. ?) ?`, "y x,x y"},
	} {
		e := exprOf(t, c.src)
		var got []string
		for _, path := range tree.Holes(e) {
			got = append(got, strings.Join(Visible(e, path), " "))
		}
		if strings.Join(got, ",") != c.want {
			t.Errorf("Visible at the holes of %s = %q; want %q", c.src, strings.Join(got, ","), c.want)
		}
	}
}

// P10.4: the names that a part binds are not visible at the part itself.
func TestVisibleAtBinder(t *testing.T) {
	e := exprOf(t, `\x. let rec y = case z of A w. ? end in \u. v`)
	for _, c := range []struct {
		path []int
		want string
	}{
		{nil, ""}, {[]int{}, ""}, {[]int{0}, "x"}, {[]int{0, 0}, "x y"}, {[]int{0, 0, 0}, "x y"}, {[]int{0, 0, 1}, "x y w"}, {[]int{0, 1}, "x y"}, {[]int{0, 1, 0}, "x y u"},
	} {
		if got := strings.Join(Visible(e, c.path), " "); got != c.want {
			t.Errorf("Visible at %v = %q; want %q", c.path, got, c.want)
		}
	}
}

// P10.4: Visible agrees with the names that are found part by part; there are none
// where there is no part.
func TestVisibleParts(t *testing.T) {
	again := 0
	for _, e := range samples(t) {
		for _, p := range parts(e) {
			if got := Visible(e, p.path); !slices.Equal(got, p.names) {
				t.Fatalf("Visible(%+v, %v) = %v; want %v", e, p.path, got, p.names)
			}
			if len(p.names) < len(p.path) && len(p.names) > 1 {
				again++
			}
			count := len(p.children())
			for _, index := range []int{-1, count, count + 1, math.MinInt, math.MaxInt} {
				for _, path := range [][]int{append(slices.Clone(p.path), index), append(slices.Clone(p.path), index, 0)} {
					if got := Visible(e, path); len(got) > 0 {
						t.Fatalf("Visible(%+v, %v) = %v", e, path, got)
					}
				}
			}
		}
	}
	if again < 100 {
		t.Errorf("only %d parts have names of a larger part", again)
	}
}

// P10.4 and P10.2: the names that are visible at a part are those that Expr
// accepts there, beside the given ones.
func TestVisibleAccepted(t *testing.T) {
	l := programOf(t, sampleDatas).Datas
	given := []string{"given", "x"}
	accepted, refused := 0, 0
	for i, e := range samples(t) {
		if i%5 != 0 || Expr(l, given, e).Err != api.OK {
			continue
		}
		for _, p := range parts(e) {
			visible := append(Visible(e, p.path), given...)
			for _, name := range []string{"x", "y", "z", "given", "other"} {
				whole, _ := tree.Put(e, p.path, api.Expr{Kind: api.ExprVar, Pos: 5000, Name: name})
				var want api.Fault
				if slices.Contains(visible, name) {
					accepted++
				} else {
					want = api.Fault{Err: api.ErrScope, Pos: 5000}
					refused++
				}
				if got := Expr(l, given, whole); got != want {
					t.Fatalf("Expr(%+v) with %s at %v = %+v; want %+v", e, name, p.path, got, want)
				}
			}
		}
	}
	if accepted < 1000 || refused < 1000 {
		t.Errorf("%d names are accepted and %d refused", accepted, refused)
	}
}

// P10.5: in a program without an error, every variable of a part is bound inside
// the part, visible there, or the name of a binding.
func TestConsequence(t *testing.T) {
	datas := programOf(t, sampleDatas).Datas
	one := exprOf(t, "1")
	count := 0
	for _, e := range samples(t) {
		p := api.Program{Datas: datas, Binds: []api.Bind{{Name: "z", Body: one}, {Name: "f", Rec: true, Body: e}}}
		if Check(p).Err != api.OK {
			continue
		}
		for _, whole := range parts(e) {
			visible := Visible(e, whole.path)
			for _, inside := range parts(whole.e) {
				name := inside.e.Name
				if inside.e.Kind != api.ExprVar {
					continue
				}
				count++
				if !slices.Contains(inside.names, name) && !slices.Contains(visible, name) && name != "z" && name != "f" {
					t.Fatalf("the variable %s of the part of %+v at %v is bound nowhere", name, e, whole.path)
				}
			}
		}
	}
	if count < 1000 {
		t.Errorf("only %d variables", count)
	}
}

// P0.4: no function changes its arguments, nor their unused capacity, and what is
// appended to a result changes no argument.
func TestArgumentsStay(t *testing.T) {
	src := sampleDatas + `let g = 1; let rec f : O a -> a = \x. case x of N. let rec y = g in y x | S z. case f z of P a b. (a : E) b end end;`
	p := programOf(t, src)
	names := spare([]string{"f", "g"}, "mark")
	e := p.Binds[1].Body
	arms := e.Kids[0].Arms
	arms[1].Vars = spare(arms[1].Vars, "mark")
	path := spare([]int{0, 2, 1}, 7)
	for range 3 {
		visible := Visible(e, path)
		lone := Visible(e.Kids[0], []int{2})
		if Check(p) != (api.Fault{}) || Expr(p.Datas, names, e) != (api.Fault{}) || !slices.Equal(visible, []string{"x", "z", "a", "b"}) || !slices.Equal(lone, []string{"z"}) {
			t.Fatalf("Check = %+v, Expr = %+v, Visible = %v, %v", Check(p), Expr(p.Datas, names, e), visible, lone)
		}
		if i, is := Arms(p.Datas, arms); i != 0 || !is {
			t.Fatalf("Arms = %d, %v", i, is)
		}
		visible[0], lone[0] = "changed", "changed"
		_, _ = append(visible, "appended"), append(lone, "appended")
	}
	if !slices.Equal(names[:4], []string{"f", "g", "mark", "mark"}) || !slices.Equal(path[:5], []int{0, 2, 1, 7, 7}) || !slices.Equal(arms[1].Vars[:3], []string{"z", "mark", "mark"}) {
		t.Errorf("an argument has changed: %v, %v, %v", names[:4], path[:5], arms[1].Vars[:3])
	}
	if again, f := readprogram.Parse(src); f.Err != api.OK || !reflect.DeepEqual(p, again) {
		t.Errorf("the program has changed: %+v", p)
	}
}

// P0.1: no function panics for arguments that are not valid.
func TestAllArguments(t *testing.T) {
	datas := []api.Data{
		{}, {Pos: -1, Name: "->", Params: []string{"", ""}}, {Name: "Int", Constructors: []api.Constructor{{}}},
		{Name: "E", Constructors: []api.Constructor{{Name: "E"}, {Name: "E", Fields: []api.Type{{}, types.Var(-1)}}, {Name: "\xff"}}},
		{Name: "F", Constructors: []api.Constructor{{Name: "E", Fields: slices.Repeat([]api.Type{{}}, 500)}}},
	}
	l := strange()
	for i, e := range l {
		below := e
		below.Kids = []api.Expr{l[(i+1)%len(l)], l[(i*7+5)%len(l)]}
		for _, x := range []api.Expr{e, below} {
			for _, names := range [][]string{nil, {""}, {"x", "", "x"}} {
				Expr(datas, names, x)
				Expr(nil, names, x)
			}
			Arms(datas, x.Arms)
			for _, path := range [][]int{nil, {0}, {1}, {2, 0}, {4}, {5, 0}, {7}, {-1}, {math.MaxInt}, {0, math.MinInt}} {
				Visible(x, path)
			}
			Check(api.Program{Binds: []api.Bind{{Name: "x", Body: x}, {Pos: -1, Rec: true, HasSig: true, Sig: e.Type, Body: x}}})
			Check(api.Program{Datas: datas, Binds: []api.Bind{{Body: x}}})
			Check(api.Program{Datas: datas[4:], Binds: []api.Bind{{Body: x}}})
		}
	}
}

// P0.8: expressions with many levels are read to their end.
func TestNested(t *testing.T) {
	const depth = 65000
	inner := api.Expr{Kind: api.ExprVar, Pos: 5, Name: "x"}
	same, different := inner, inner
	var names []string
	for i := range depth {
		same = lam("y", same)
		name := "v" + strconv.Itoa(depth-1-i)
		different = api.Expr{Kind: api.ExprRec, Name: name, Kids: []api.Expr{{Kind: api.ExprHole}, different}}
		names = append(names, "v"+strconv.Itoa(i))
	}
	for _, e := range []api.Expr{same, different} {
		if got := Expr(nil, nil, e); got != (api.Fault{Err: api.ErrScope, Pos: 5}) {
			t.Errorf("Expr = %+v", got)
		}
		if got := Expr(nil, []string{"x"}, e); got != (api.Fault{}) {
			t.Errorf("Expr = %+v", got)
		}
	}
	if got := Visible(same, make([]int, depth)); !slices.Equal(got, []string{"y"}) {
		t.Errorf("Visible has %d names", len(got))
	}
	if got := Visible(different, slices.Repeat([]int{1}, depth)); !slices.Equal(got, names) {
		t.Errorf("Visible has %d names", len(got))
	}
}

package splice

import (
	"math"
	"slices"
	"strings"
	"testing"

	"typedholes/api"
	"typedholes/scope"
	"typedholes/tree"
)

// P12.1: the bindings and the paths of the holes.
func TestFind(t *testing.T) {
	type place struct {
		bind int
		path []int
	}
	for _, c := range []struct {
		src  string
		want []place
	}{
		{"", nil}, {"data E = E;", nil}, {"let x = 1;", nil}, {"let x = 1; let y = x;", nil},
		{"let x = ?;", []place{{0, nil}}},
		{"let x = 1; let y = ?;", []place{{1, nil}}},
		{"let x = ?; let y = \\x. ? x; let z = 1;", []place{{0, nil}, {1, []int{0, 0}}}},
		{"let x = ? (? ?) ?; let y = 1; let z : Int = {?};", []place{{0, []int{0, 0}}, {0, []int{0, 1, 0}}, {0, []int{0, 1, 1}}, {0, []int{1}}, {2, []int{0}}}},
		{"let x = case ? of N. ? | S a. \\b. (? : Int) end; data O = N | S Int; let rec y = let a = ? in ?; let z = let rec a = 1 in ?;", []place{{0, []int{0}}, {0, []int{1}}, {0, []int{2, 0, 0}}, {1, []int{0}}, {1, []int{1}}, {2, []int{1}}}},
	} {
		p := programOf(t, c.src)
		if got := Count(p); got != len(c.want) {
			t.Errorf("Count(%s) = %d; want %d", c.src, got, len(c.want))
		}
		for h, want := range c.want {
			if i, path, is := Find(p, h); i != want.bind || !slices.Equal(path, want.path) || !is {
				t.Errorf("Find(%s, %d) = %d, %v, %v; want %v", c.src, h, i, path, is, want)
			}
		}
		noHole(t, p, len(c.want))
	}
}

// noHole checks that numbers below 0 and from count on belong to no hole.
func noHole(t *testing.T, p api.Program, count int) {
	t.Helper()
	for _, h := range []int{-1, -2, -count, -count - 1, math.MinInt, count, count + 1, 2*count + 1, math.MaxInt} {
		if h == 0 && count > 0 {
			continue
		}
		if i, path, is := Find(p, h); i != 0 || len(path) > 0 || is {
			t.Errorf("Find(%+v, %d) = %d, %v, %v", p, h, i, path, is)
		}
		if l, err := Names(p, h); len(l) > 0 || err != api.ErrIndex {
			t.Errorf("Names(%+v, %d) = %v, %d", p, h, l, err)
		}
		for _, do := range []func(api.Program, int, api.Expr) (api.Program, api.Errno){Fill, Hold} {
			if q, err := do(p, h, hole()); len(q.Datas)+len(q.Binds) > 0 || err != api.ErrIndex {
				t.Errorf("filling %d of %+v = %+v, %d", h, p, q, err)
			}
		}
	}
}

// P12.1: Count and Find agree with the text of the program, where each hole has an
// offset.
func TestFindInTexts(t *testing.T) {
	several, none := 0, 0
	for _, src := range samples() {
		p := programOf(t, src)
		want := offsets(src)
		if got := Count(p); got != len(want) {
			t.Fatalf("Count(%s) = %d; want %d", src, got, len(want))
		}
		for h, offset := range want {
			bind := -1 // the last binding that begins before the hole
			for i := range p.Binds {
				if p.Binds[i].Pos < offset {
					bind = i
				}
			}
			i, path, is := Find(p, h)
			if i != bind || !is {
				t.Fatalf("Find(%s, %d) = %d, %v; want %d", src, h, i, is, bind)
			}
			if part, is := tree.At(p.Binds[i].Body, path); part.Kind != api.ExprHole || part.Pos != offset || !is {
				t.Fatalf("Find(%s, %d) = %v, where %+v is; want the hole at %d", src, h, path, part, offset)
			}
			if i > 0 && len(path) > 1 {
				several++
			}
		}
		noHole(t, p, len(want))
		if len(want) == 0 {
			none++
		}
	}
	if several < 300 || none < 3 {
		t.Errorf("%d holes are in later bindings, %d programs have none", several, none)
	}
}

// P12.2: the names that are visible at the holes of a program.
func TestNames(t *testing.T) {
	for _, c := range []struct {
		src  string
		want string // for each hole, separated by commas
	}{
		{"let x = ?; let y = \\x. ?;", ",x"}, // the chapter's example
		{"let x = ?;", ""}, {"let rec x = ?;", "x"}, {"let x = 1; let y = ?;", "x"}, {"let x = 1; let rec y = ?;", "x y"}, {"let x = ?; let y = ?; let z = ?;", ",x,x y"}, {"let rec x = ?; let rec y = ?; let rec z = ?;", "x,x y,x y z"}, {"let b = ?; let a = ?; let c = ?;", ",b,b a"}, {"let x = ?; let y = 1;", ""},
		{"let x : a = ?; data D a = A a; let y : D b = ?;", ",x"}, // only variables
		{"let f = 1; let rec g = \\a. let f = ? in ?;", "f g a,g a f"}, {"let f = 1; let g = \\a. let rec f = ? in ?;", "a f,a f"},
		{"let a = 1; let b = 2; let c = \\b. \\a. ? (\\b. ?);", "b a,a b"}, {"let a = 1; let b = 2; let rec c = \\c. ?;", "a b c"}, {"let a = 1; let b = 2; let rec c = \\c. \\a. ? (\\d. ?);", "b c a,b c a d"}, {"let rec a = \\b. \\a. ?;", "b a"}, {"let rec a = (\\a. ?) ?;", "a,a"},
		{"data P = P Int Int; let x = 1; let y = 2; let rec z = case ? of P y x. \\z. ? end;", "x y z,y x z"}, {"data P = P Int Int; let x = 1; let z = case ? of P z y. ? end; let u = ?;", "x,x z y,x z"},
		{"let x = 1; let y = let x = ? in \\y. ?;", "x,x y"}, {"let x = 1; let y = 2; let z = let x = ? in ?;", "x y,y x"},
	} {
		p := programOf(t, c.src)
		var got []string
		for h := range Count(p) {
			l, err := Names(p, h)
			if err != api.OK {
				t.Errorf("Names(%s, %d) fails: %d", c.src, h, err)
			}
			got = append(got, strings.Join(l, " "))
		}
		if strings.Join(got, ",") != c.want {
			t.Errorf("Names of the holes of %s = %q; want %q", c.src, strings.Join(got, ","), c.want)
		}
	}
}

// P12.2: a name of several bindings is at the place of the last one.
func TestNamesOfSameBindings(t *testing.T) {
	p := programOf(t, "let a = 1; let b = 2; let a = ?; let rec b = ?; let rec a = ?; let c = ?;")
	for h, want := range []string{"a b", "a b", "b a", "b a"} {
		if l, err := Names(p, h); strings.Join(l, " ") != want || err != api.OK {
			t.Errorf("Names(%d) = %v, %d; want %s", h, l, err, want)
		}
	}
}

// P12.2: Names agrees with the names that are found from the beginning of the
// program.
func TestNamesInTexts(t *testing.T) {
	hidden := 0
	for _, src := range samples() {
		p := programOf(t, src)
		for h, want := range namesAtHoles(p) {
			got, err := Names(p, h)
			if !slices.Equal(got, want) || err != api.OK {
				t.Fatalf("Names(%s, %d) = %v, %d; want %v", src, h, got, err, want)
			}
			i, path, _ := Find(p, h)
			local := scope.Visible(p.Binds[i].Body, path)
			if slices.ContainsFunc(p.Binds[:i], func(bind api.Bind) bool { return slices.Contains(local, bind.Name) }) {
				hidden++
			}
		}
	}
	if hidden < 100 {
		t.Errorf("at only %d holes a name of a binding is hidden", hidden)
	}
}

// P12.2: the names at a hole of a program without errors are those of the variables
// that Fill accepts there.
func TestNamesAccepted(t *testing.T) {
	for _, src := range few(samples(), 3) {
		p := programOf(t, src)
		for h := range Count(p) {
			names, _ := Names(p, h)
			for _, name := range []string{"a", "b", "f", "x", "y", "z"} {
				want := api.ErrScope
				if slices.Contains(names, name) {
					want = api.OK
				}
				if _, err := Fill(p, h, v(name)); err != want {
					t.Fatalf("Fill(%s, %d, %s) = %d; want %d", src, h, name, err, want)
				}
			}
		}
	}
}

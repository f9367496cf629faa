package tree

import (
	"fmt"
	"math"
	"slices"
	"testing"

	"typedholes/api"
)

// pathsOf lists the paths of all nodes of e, in preorder, and the nodes there.
func pathsOf(e api.Expr) ([][]int, []api.Expr) {
	var paths [][]int
	var parts []api.Expr
	var visit func(path []int, e api.Expr)
	visit = func(path []int, e api.Expr) {
		paths, parts = append(paths, path), append(parts, e)
		for i, kid := range e.Kids {
			visit(append(slices.Clone(path), i), kid)
		}
		for i, a := range e.Arms {
			visit(append(slices.Clone(path), len(e.Kids)+i), a.Body)
		}
	}
	visit(nil, e)
	return paths, parts
}

// wrongPaths lists paths of no part of e.
func wrongPaths(e api.Expr) [][]int {
	var wrong [][]int
	paths, parts := pathsOf(e)
	for i, path := range paths {
		count := len(parts[i].Kids) + len(parts[i].Arms)
		for _, index := range []int{-1, count, count + 1, math.MaxInt, math.MinInt} {
			wrong = append(wrong, append(slices.Clone(path), index), append(slices.Clone(path), index, 0))
		}
	}
	return wrong
}

func slash(path []int) string {
	text := ""
	for _, i := range path {
		text += fmt.Sprint("/", i)
	}
	return text
}

// P4.2: At and Put at parts of all kinds of children.
func TestAtAndPut(t *testing.T) {
	x, y, z := variable("x"), variable("y"), variable("z")
	e := analysis(app(x, y), arm("A", lam("f", y)), arm("B", let("g", z, hole()), "p"))
	for _, c := range []struct {
		path       []int
		part, with api.Expr // with has the number 1 in place of the part
	}{
		{nil, e, number(1)},
		{[]int{}, e, number(1)},
		{[]int{0}, app(x, y), analysis(number(1), e.Arms...)},
		{[]int{0, 0}, x, analysis(app(number(1), y), e.Arms...)},
		{[]int{0, 1}, y, analysis(app(x, number(1)), e.Arms...)},
		{[]int{1}, lam("f", y), analysis(app(x, y), arm("A", number(1)), e.Arms[1])},
		{[]int{1, 0}, y, analysis(app(x, y), arm("A", lam("f", number(1))), e.Arms[1])},
		{[]int{2}, let("g", z, hole()), analysis(app(x, y), e.Arms[0], arm("B", number(1), "p"))},
		{[]int{2, 0}, z, analysis(app(x, y), e.Arms[0], arm("B", let("g", number(1), hole()), "p"))},
		{[]int{2, 1}, hole(), analysis(app(x, y), e.Arms[0], arm("B", let("g", z, number(1)), "p"))},
	} {
		if got, found := At(e, c.path); !found || !same(got, c.part) {
			t.Errorf("At %v = %+v, %v; want %+v", c.path, got, found, c.part)
		}
		if got, found := Put(e, c.path, number(1)); !found || !same(got, c.with) {
			t.Errorf("Put at %v = %+v, %v; want %+v", c.path, got, found, c.with)
		}
	}
}

// P4.2: At and Put at paths of no part.
func TestNoPath(t *testing.T) {
	for _, e := range all() {
		for _, path := range wrongPaths(e) {
			if got, found := At(e, path); found || !same(got, api.Expr{}) {
				t.Fatalf("At(%+v, %v) = %+v, %v", e, path, got, found)
			}
			if got, found := Put(e, path, number(1)); found || !same(got, e) {
				t.Fatalf("Put(%+v, %v) = %+v, %v", e, path, got, found)
			}
		}
	}
}

// P4.2 and P4.5: At finds every part, Put replaces it and nothing else, and what
// was replaced can be put back; P0.4: the arguments stay as they are.
func TestPutOfAll(t *testing.T) {
	part := spare(analysis(hole(), arm("A", hole(), "x"), arm("B", variable("y"))))
	for _, e := range all() {
		e = spare(e)
		before := preorder(e)
		paths, parts := pathsOf(e)
		for i, path := range paths {
			old, found := At(e, path)
			if !found || !same(old, parts[i]) {
				t.Fatalf("At(%+v, %v) = %+v, %v", e, path, old, found)
			}
			if got, found := Put(e, path, old); !found || !same(got, e) {
				t.Fatalf("Put of At at %v = %+v, %v", path, got, found)
			}
			got, found := Put(e, path, part)
			if !found || !slices.Equal(preorder(got), replaced(before, slash(path), part)) {
				t.Fatalf("Put(%+v, %v) = %+v, %v", e, path, got, found)
			}
			if at, found := At(got, path); !found || !same(at, part) {
				t.Fatalf("At of Put at %v = %+v, %v", path, at, found)
			}
			if holes := len(Holes(e)) - len(Holes(old)) + len(Holes(part)); len(Holes(got)) != holes {
				t.Fatalf("%+v has %d holes; want %d", got, len(Holes(got)), holes)
			}
		}
		if !slices.Equal(preorder(e), before) || !intact(e) || !intact(part) {
			t.Fatalf("an argument has changed: %+v, %+v", e, part)
		}
	}
}

// replaced returns the nodes of an expression with those of part in place of
// those at a path.
func replaced(nodes []node, path string, part api.Expr) []node {
	inside := func(n node) bool {
		return n.path == path || len(n.path) > len(path) && n.path[:len(path)+1] == path+"/"
	}
	begin := slices.IndexFunc(nodes, inside)
	out := slices.Clone(nodes[:begin])
	for _, n := range preorder(part) {
		n.path = path + n.path
		out = append(out, n)
	}
	for _, n := range nodes[begin:] {
		if !inside(n) {
			out = append(out, n)
		}
	}
	return out
}

// P4.2: the results of two calls of Put on one expression do not mix.
func TestPutTwice(t *testing.T) {
	e := spare(analysis(hole(), arm("A", hole()), arm("B", hole())))
	for _, i := range []int{0, 1, 2} {
		for _, k := range []int{0, 1, 2} {
			a, _ := Put(e, []int{i}, number(1))
			b, _ := Put(a, []int{k}, number(2))
			c, _ := Put(a, []int{k}, number(3))
			if x, _ := At(b, []int{k}); !same(x, number(2)) {
				t.Errorf("Put at %d and %d: %+v", i, k, b)
			}
			if x, _ := At(c, []int{k}); !same(x, number(3)) {
				t.Errorf("Put at %d and %d: %+v", i, k, c)
			}
			if x, _ := At(a, []int{i}); !same(x, number(1)) || len(Holes(a)) != 2 {
				t.Errorf("Put at %d and %d: %+v", i, k, a)
			}
		}
	}
}

// P4.3: Holes in preorder.
func TestHoles(t *testing.T) {
	x := variable("x")
	for _, c := range []struct {
		e    api.Expr
		want [][]int
	}{
		{app(app(hole(), x), lam("y", hole())), [][]int{{0, 0}, {1, 0}}}, // the chapter's example
		{hole(), [][]int{{}}},
		{x, nil},
		{con("C"), nil},
		{api.Expr{}, nil},
		{held(hole()), [][]int{{0}}},
		{held(x), nil},
		{app(hole(), hole()), [][]int{{0}, {1}}},
		{let("y", hole(), hole()), [][]int{{0}, {1}}},
		{rec("y", x, app(hole(), x)), [][]int{{1, 0}}},
		{analysis(x, arm("A", hole()), arm("B", app(x, hole()))), [][]int{{1}, {2, 1}}},
		{analysis(app(hole(), hole()), arm("A", hole())), [][]int{{0, 0}, {0, 1}, {1}}},
		{app(app(app(hole(), hole()), lam("y", hole())), hole()), [][]int{{0, 0, 0}, {0, 0, 1}, {0, 1, 0}, {1}}},
		{api.Expr{Kind: api.ExprHole, Kids: []api.Expr{x, hole()}}, [][]int{{}, {1}}}, // a hole comes before its children, if it has any
	} {
		if got := Holes(c.e); !slices.EqualFunc(got, c.want, slices.Equal) {
			t.Errorf("Holes(%+v) = %v; want %v", c.e, got, c.want)
		}
	}
}

// P4.3: Holes are the nodes that are holes, and At finds them; P0.4: the paths
// can be changed one by one.
func TestHolesOfAll(t *testing.T) {
	for _, e := range append(all(), deep(40, hole())) {
		var want []string
		for _, n := range preorder(e) {
			if n.hole {
				want = append(want, n.path)
			}
		}
		var got []string
		paths := Holes(e)
		for _, path := range paths {
			got = append(got, slash(path))
			if x, found := At(e, path); !found || x.Kind != api.ExprHole {
				t.Fatalf("At(%+v, %v) = %+v, %v", e, path, x, found)
			}
		}
		if !slices.Equal(got, want) {
			t.Fatalf("Holes(%+v) = %v; want %v", e, got, want)
		}
		for i := range paths {
			_ = append(paths[i], -1, -1, -1)
			for k := range paths[i] {
				paths[i][k] = -1
			}
			for k, path := range paths[i+1:] {
				if slash(path) != want[i+1+k] {
					t.Fatalf("changing a path changes another one to %v", path)
				}
			}
		}
	}
}

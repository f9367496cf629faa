package tree

import (
	"fmt"
	"math"
	"slices"
	"testing"

	"typedholes/api"
	"typedholes/types"
)

func variable(name string) api.Expr { return api.Expr{Kind: api.ExprVar, Pos: 1, Name: name} }

func con(name string) api.Expr { return api.Expr{Kind: api.ExprCon, Pos: 2, Name: name} }

func number(n int) api.Expr { return api.Expr{Kind: api.ExprInt, Pos: 3, Num: n} }

func hole() api.Expr { return api.Expr{Kind: api.ExprHole, Pos: 4} }

func lam(name string, body api.Expr) api.Expr {
	return api.Expr{Kind: api.ExprLam, Pos: 5, Name: name, Kids: []api.Expr{body}}
}

func app(f, x api.Expr) api.Expr {
	return api.Expr{Kind: api.ExprApp, Pos: 6, Kids: []api.Expr{f, x}}
}

func let(name string, by, in api.Expr) api.Expr {
	return api.Expr{Kind: api.ExprLet, Pos: 7, Name: name, Kids: []api.Expr{by, in}}
}

func rec(name string, by, in api.Expr) api.Expr {
	return api.Expr{Kind: api.ExprRec, Pos: 8, Name: name, Kids: []api.Expr{by, in}}
}

func analysis(of api.Expr, arms ...api.Arm) api.Expr {
	return api.Expr{Kind: api.ExprCase, Pos: 9, Kids: []api.Expr{of}, Arms: arms}
}

func arm(con string, body api.Expr, vars ...string) api.Arm {
	return api.Arm{Pos: 10, Con: con, Vars: vars, Body: body}
}

func ann(e api.Expr, t api.Type) api.Expr {
	return api.Expr{Kind: api.ExprAnn, Pos: 11, Kids: []api.Expr{e}, Type: t}
}

func held(e api.Expr) api.Expr { return api.Expr{Kind: api.ExprHeld, Pos: 12, Kids: []api.Expr{e}} }

func typeName(name string) api.Type { return api.Type{Kind: api.TypeName, Name: name} }

// node is a node of an expression, with its path and the number of its children
// in place of the children themselves.
type node struct {
	fields string
	arms   string
	path   string
	kids   int
	hole   bool
}

// preorder lists the nodes of an expression, which determine it. It is the
// tests' second way to look at expressions, and has no recursion.
func preorder(e api.Expr) []node { return list(e, func(pos int) int { return pos }) }

// bare is preorder without positions.
func bare(e api.Expr) []node { return list(e, func(int) int { return 0 }) }

func list(e api.Expr, pos func(int) int) []node {
	type part struct {
		e    api.Expr
		path string
	}
	var out []node
	left := []part{{e, ""}}
	for len(left) > 0 {
		p := left[len(left)-1]
		left = left[:len(left)-1]
		n := node{path: p.path, kids: len(p.e.Kids), hole: p.e.Kind == api.ExprHole}
		n.fields = fmt.Sprintf("%d %d %q %d %+v", p.e.Kind, pos(p.e.Pos), p.e.Name, p.e.Num, p.e.Type)
		var parts []part
		for _, kid := range p.e.Kids {
			parts = append(parts, part{kid, ""})
		}
		for _, a := range p.e.Arms {
			n.arms += fmt.Sprintf("%d %q %q;", pos(a.Pos), a.Con, a.Vars)
			parts = append(parts, part{a.Body, ""})
		}
		for i := len(parts) - 1; i >= 0; i-- {
			// The path of a very deep part would take too much space.
			if len(p.path) < 1000 {
				parts[i].path = fmt.Sprint(p.path, "/", i)
			}
			left = append(left, parts[i])
		}
		out = append(out, n)
	}
	return out
}

// same reports whether two expressions have the same nodes, with positions.
func same(a, b api.Expr) bool { return slices.Equal(preorder(a), preorder(b)) }

// numbered returns e with other positions, each once.
func numbered(e api.Expr) api.Expr {
	next := 100
	var number func(e api.Expr) api.Expr
	number = func(e api.Expr) api.Expr {
		next++
		e.Pos = next
		e.Kids, e.Arms = slices.Clone(e.Kids), slices.Clone(e.Arms)
		for i := range e.Kids {
			e.Kids[i] = number(e.Kids[i])
		}
		for i := range e.Arms {
			next++
			e.Arms[i].Pos = next
			e.Arms[i].Body = number(e.Arms[i].Body)
		}
		return e
	}
	return number(e)
}

// samples returns valid expressions of all kinds and of several depths.
func samples() []api.Expr {
	list := types.Con("List", typeName("a"))
	out := []api.Expr{variable("x"), variable("y"), con("Nil"), con("X"), number(0), number(7), hole()}
	level := out
	for range 2 {
		var next []api.Expr
		for i, e := range level {
			f := level[(i*5+3)%len(level)]
			next = append(next, lam("x", e), lam("y", f), app(e, f), let("x", e, f), rec("x", f, e), ann(e, types.Int()), ann(f, list), held(e),
				analysis(e, arm("Nil", f)), analysis(f, arm("Nil", hole()), arm("Cons", e, "x", "t")))
		}
		out = append(out, next...)
		level = next
	}
	return append(out, app(app(hole(), variable("x")), lam("y", hole())),
		analysis(hole(), arm("A", hole()), arm("B", analysis(hole(), arm("C", hole(), "a", "b", "c", "d")), "x"), arm("D", lam("z", hole()), "x", "x")))
}

// strange returns expressions that are not valid.
func strange() []api.Expr {
	full := api.Expr{Kind: api.ExprCase, Pos: -1, Name: "x", Num: 3, Kids: []api.Expr{{}, hole()}, Arms: []api.Arm{{Pos: -2, Con: "c", Vars: []string{"X"}, Body: hole()}}, Type: types.Con("T", types.Var(0))}
	broken := full
	broken.Kind = api.ExprHole
	return []api.Expr{
		{}, {Kind: -1}, {Kind: 12, Kids: []api.Expr{hole(), variable("x")}}, {Kind: math.MaxInt, Pos: math.MaxInt}, {Kind: math.MinInt, Num: math.MinInt, Pos: math.MinInt},
		full, broken, lam("X", hole()), app(full, api.Expr{}), held(api.Expr{}), variable(""), variable("\xff"), con("of"), number(-1), number(1000000000),
		{Kind: api.ExprLam, Name: "x"}, {Kind: api.ExprApp, Kids: []api.Expr{hole()}}, {Kind: api.ExprCase}, {Kind: api.ExprHole, Arms: []api.Arm{{}}}, {Kind: api.ExprHole, Kids: []api.Expr{hole(), hole()}},
		{Kind: api.ExprAnn, Type: types.Var(-1)}, ann(hole(), api.Type{}), analysis(hole()), analysis(hole(), api.Arm{}),
	}
}

func all() []api.Expr { return append(samples(), strange()...) }

// deep returns an expression of a depth that has nodes of all kinds with
// children.
func deep(depth int, e api.Expr) api.Expr {
	for i := range depth {
		switch i % 5 {
		case 0:
			e = lam("x", e)
		case 1:
			e = app(variable("f"), e)
		case 2:
			e = app(e, hole())
		case 3:
			e = analysis(variable("x"), arm("A", variable("y")), arm("B", e, "y"))
		case 4:
			e = held(e)
		}
	}
	return e
}

// spare returns e with lists that have capacity left, which is filled with
// marks.
func spare(e api.Expr) api.Expr {
	mark := variable("mark")
	var kids []api.Expr
	for _, kid := range e.Kids {
		kids = append(kids, spare(kid))
	}
	var arms []api.Arm
	for _, a := range e.Arms {
		a.Body = spare(a.Body)
		a.Vars = append(slices.Clone(a.Vars), "mark", "mark")[:len(a.Vars)]
		arms = append(arms, a)
	}
	e.Kids = append(kids, mark, mark, mark)[:len(kids)]
	e.Arms = append(arms, arm("Mark", mark), arm("Mark", mark))[:len(arms)]
	return e
}

// intact reports whether the marks that spare has left are still there.
func intact(e api.Expr) bool {
	for _, mark := range e.Kids[len(e.Kids) : len(e.Kids)+3] {
		if !same(mark, variable("mark")) {
			return false
		}
	}
	for _, mark := range e.Arms[len(e.Arms) : len(e.Arms)+2] {
		if mark.Con != "Mark" || mark.Pos != 10 || !same(mark.Body, variable("mark")) {
			return false
		}
	}
	for _, a := range e.Arms {
		if !slices.Equal(a.Vars[len(a.Vars):len(a.Vars)+2], []string{"mark", "mark"}) || !intact(a.Body) {
			return false
		}
	}
	return !slices.ContainsFunc(e.Kids, func(kid api.Expr) bool { return !intact(kid) })
}

// P4.1: the children of expressions of each kind.
func TestChildren(t *testing.T) {
	x, y, z := variable("x"), variable("y"), variable("z")
	for _, c := range []struct {
		e    api.Expr
		want []api.Expr
	}{
		{x, nil},
		{con("C"), nil},
		{number(5), nil},
		{hole(), nil},
		{api.Expr{}, nil},
		{lam("f", x), []api.Expr{x}},
		{app(x, y), []api.Expr{x, y}},
		{let("f", x, y), []api.Expr{x, y}},
		{rec("f", y, x), []api.Expr{y, x}},
		{ann(x, types.Int()), []api.Expr{x}},
		{held(x), []api.Expr{x}},
		{analysis(x, arm("A", y)), []api.Expr{x, y}},
		{analysis(x, arm("A", y), arm("B", z, "p", "q")), []api.Expr{x, y, z}}, // the chapter's example
		{analysis(lam("f", z), arm("A", app(y, z)), arm("B", y), arm("C", x)), []api.Expr{lam("f", z), app(y, z), y, x}},
		{api.Expr{Kind: api.ExprVar, Kids: []api.Expr{z, y}, Arms: []api.Arm{arm("A", x)}}, []api.Expr{z, y, x}},
	} {
		if got := Children(c.e); !slices.EqualFunc(got, c.want, same) {
			t.Errorf("Children(%+v) = %+v; want %+v", c.e, got, c.want)
		}
	}
}

// P4.1: the children are the kids and the bodies of the arms; P0.4: who changes
// the list does not change the expression.
func TestChildrenOfAll(t *testing.T) {
	for _, e := range all() {
		e = spare(e)
		before := preorder(e)
		want := slices.Clone(e.Kids)
		for _, a := range e.Arms {
			want = append(want, a.Body)
		}
		got := Children(e)
		if !slices.EqualFunc(got, want, same) {
			t.Fatalf("Children(%+v) = %+v", e, got)
		}
		for i := range got {
			got[i] = number(99)
		}
		got = append(got, number(98))
		if !slices.Equal(preorder(e), before) || !intact(e) {
			t.Fatalf("an expression has changed to %+v with the list %+v", e, got)
		}
	}
}

// P4.1: With replaces the children, in order, and nothing else.
func TestWith(t *testing.T) {
	x, y, z := variable("x"), variable("y"), variable("z")
	list := types.Con("List", typeName("a"))
	for _, c := range []struct {
		e        api.Expr
		children []api.Expr
		want     api.Expr
	}{
		{x, nil, x},
		{hole(), []api.Expr{}, hole()},
		{lam("f", x), []api.Expr{y}, lam("f", y)},
		{app(x, y), []api.Expr{y, x}, app(y, x)},
		{let("f", x, y), []api.Expr{z, hole()}, let("f", z, hole())},
		{rec("f", x, y), []api.Expr{y, z}, rec("f", y, z)},
		{ann(x, list), []api.Expr{z}, ann(z, list)},
		{held(x), []api.Expr{held(x)}, held(held(x))},
		{analysis(x, arm("A", y), arm("B", z, "p", "q")), []api.Expr{z, lam("f", x), hole()}, analysis(z, arm("A", lam("f", x)), arm("B", hole(), "p", "q"))},
		{lam("f", x), []api.Expr{{}}, lam("f", api.Expr{})},
	} {
		if got := With(c.e, c.children); !same(got, c.want) {
			t.Errorf("With(%+v, %+v) = %+v; want %+v", c.e, c.children, got, c.want)
		}
	}
}

// P4.1: With of too few or too many children returns e; P0.4: neither the
// expression nor the list change, nor their unused capacity.
func TestWithOfAll(t *testing.T) {
	l := samples()
	for i, e := range all() {
		e = spare(e)
		before := preorder(e)
		count := len(e.Kids) + len(e.Arms)
		for size := range count + 3 {
			var children []api.Expr
			for k := range size {
				children = append(children, spare(l[(i+k*7)%len(l)]))
			}
			wanted := slices.Clone(children)
			got := With(e, children)
			if size != count && !same(got, e) {
				t.Fatalf("With of %d children in place of %d = %+v", size, count, got)
			}
			if size == count {
				kids, bodies := got.Kids, []api.Expr{}
				for k, a := range got.Arms {
					bodies = append(bodies, a.Body)
					a.Body = e.Arms[k].Body
					got.Arms[k] = a
				}
				got.Kids = e.Kids
				if !slices.EqualFunc(slices.Concat(kids, bodies), wanted, same) || !same(got, e) {
					t.Fatalf("With(%+v, %+v) = %+v", e, wanted, got)
				}
			}
			if !slices.Equal(preorder(e), before) || !intact(e) || !slices.EqualFunc(children, wanted, same) || slices.ContainsFunc(children, func(c api.Expr) bool { return !intact(c) }) {
				t.Fatalf("With has changed its arguments to %+v and %+v", e, children)
			}
		}
	}
}

// P0.4 for P4.1: the list that was passed to With stays the caller's.
func TestWithKeepsNoList(t *testing.T) {
	l := []api.Expr{variable("x"), variable("y"), variable("z")}
	e := With(app(hole(), hole()), l[:2])
	l[1] = number(1)
	if !same(e.Kids[1], variable("y")) {
		t.Error("a result of With follows the list that its kids came from")
	}
	e.Kids[0] = hole()
	e.Kids = append(e.Kids, hole())
	if !same(l[0], variable("x")) || !same(l[2], variable("z")) {
		t.Errorf("changing the kids of a result of With changes the list to %+v", l)
	}
}

// changed returns expressions that differ from e in one field of e itself.
func changed(e api.Expr) []api.Expr {
	var out []api.Expr
	add := func(change func(x *api.Expr)) {
		x := e
		x.Kids, x.Arms = slices.Clone(e.Kids), slices.Clone(e.Arms)
		change(&x)
		out = append(out, x)
	}
	add(func(x *api.Expr) { x.Kind++ })
	add(func(x *api.Expr) { x.Name += "1" })
	add(func(x *api.Expr) { x.Num++ })
	add(func(x *api.Expr) { x.Type.Kind++ })
	add(func(x *api.Expr) { x.Type.Name += "1" })
	add(func(x *api.Expr) { x.Type.Id++ })
	add(func(x *api.Expr) { x.Type.Home++ })
	add(func(x *api.Expr) { x.Type.Args = append(slices.Clone(x.Type.Args), types.Int()) })
	add(func(x *api.Expr) { x.Kids = append(x.Kids, hole()) })
	add(func(x *api.Expr) { x.Arms = append(x.Arms, arm("A", hole())) })
	for i := range e.Kids {
		add(func(x *api.Expr) { x.Kids[i] = held(x.Kids[i]) })
		add(func(x *api.Expr) { x.Kids = slices.Delete(x.Kids, i, i+1) })
	}
	for i := range e.Arms {
		add(func(x *api.Expr) { x.Arms[i].Con += "1" })
		add(func(x *api.Expr) { x.Arms[i].Vars = append(slices.Clone(x.Arms[i].Vars), "x") })
		add(func(x *api.Expr) { x.Arms[i].Body = held(x.Arms[i].Body) })
		add(func(x *api.Expr) { x.Arms = slices.Delete(x.Arms, i, i+1) })
		for k := range e.Arms[i].Vars {
			add(func(x *api.Expr) {
				x.Arms[i].Vars = slices.Clone(x.Arms[i].Vars)
				x.Arms[i].Vars[k] += "1"
			})
		}
	}
	return out
}

// P4.1: Equal compares all fields other than positions, also those of
// expressions that are not valid.
func TestEqual(t *testing.T) {
	l := all()
	var nodes [][]node
	for _, e := range l {
		nodes = append(nodes, bare(e))
	}
	for i, a := range l {
		for k, b := range l {
			if got := Equal(a, b); got != slices.Equal(nodes[i], nodes[k]) {
				t.Fatalf("Equal(%+v, %+v) is %v", a, b, got)
			}
		}
	}
}

// P4.1: expressions with other positions or with other capacities are equal, and
// those that differ in one field are not, at any depth.
func TestEqualOfChanged(t *testing.T) {
	around := func(e api.Expr) []api.Expr {
		return []api.Expr{e, lam("x", e), app(e, hole()), app(hole(), e), analysis(e, arm("A", hole())), analysis(hole(), arm("A", hole()), arm("B", e)), deep(7, e)}
	}
	for _, e := range all() {
		if other := numbered(spare(e)); !Equal(e, other) || !Equal(other, e) || same(e, other) {
			t.Fatalf("%+v is not equal to %+v", e, other)
		}
		wholes := around(e)
		for _, x := range changed(e) {
			for i, whole := range around(x) {
				if Equal(wholes[i], whole) || Equal(whole, wholes[i]) {
					t.Fatalf("%+v is equal to %+v", wholes[i], whole)
				}
			}
		}
	}
}

// P4.1: empty lists are equal wherever they are.
func TestEqualOfEmptyLists(t *testing.T) {
	full := func(e api.Expr) api.Expr {
		e.Kids, e.Arms, e.Type.Args = append([]api.Expr{}, e.Kids...), append([]api.Arm{}, e.Arms...), append([]api.Type{}, e.Type.Args...)
		return e
	}
	for _, e := range []api.Expr{{}, variable("x"), number(1), ann(hole(), types.Int()), held(hole())} {
		if !Equal(e, full(e)) || !Equal(full(e), e) || Valid(full(e)) != Valid(e) {
			t.Errorf("%+v with empty lists is not the same", e)
		}
	}
	a, b := analysis(hole(), arm("A", hole())), analysis(full(hole()), api.Arm{Con: "A", Vars: []string{}, Body: full(hole())})
	if !Equal(a, b) || !Equal(b, a) || !Valid(b) {
		t.Errorf("%+v is not the same as %+v", a, b)
	}
}

// P4.2: Nodes and Depth.
func TestSizes(t *testing.T) {
	x := variable("x")
	for _, c := range []struct {
		e            api.Expr
		nodes, depth int
	}{
		{x, 1, 0},
		{hole(), 1, 0},
		{api.Expr{}, 1, 0},
		{lam("y", x), 2, 1},
		{app(x, x), 3, 1},
		{app(app(x, x), x), 5, 2}, // the deepest child is the first one
		{app(x, app(x, x)), 5, 2}, // or the last one
		{ann(x, types.Arrow(types.Int(), types.Int())), 2, 1}, // types play no part
		{held(lam("y", x)), 3, 2},
		{analysis(x, arm("A", x), arm("B", x, "p", "q")), 4, 1},
		{analysis(x, arm("A", app(x, held(x))), arm("B", lam("y", x))), 8, 3},
		{analysis(held(held(held(x))), arm("A", x)), 6, 4},
		{deep(5, x), 10, 5},
		{deep(1000, x), 1801, 1000},
	} {
		if nodes, depth := Nodes(c.e), Depth(c.e); nodes != c.nodes || depth != c.depth {
			t.Errorf("%.500s has %d nodes and the depth %d; want %d and %d", fmt.Sprint(c.e), nodes, depth, c.nodes, c.depth)
		}
	}
	for _, e := range all() {
		depth := 0
		for _, n := range preorder(e) {
			depth = max(depth, len(n.path)/2) // no child has an index of two digits
		}
		if Nodes(e) != len(preorder(e)) || Depth(e) != depth {
			t.Fatalf("%+v has %d nodes and the depth %d", e, Nodes(e), Depth(e))
		}
	}
}

// P4.2: Strip sets all positions to 0, those of arms too, and nothing else.
func TestStrip(t *testing.T) {
	e := api.Expr{Kind: api.ExprCase, Pos: 5, Kids: []api.Expr{{Kind: api.ExprVar, Pos: 10, Name: "x"}}, Arms: []api.Arm{{Pos: 15, Con: "A", Vars: []string{"y"}, Body: api.Expr{Kind: api.ExprHole, Pos: 20}}}}
	want := api.Expr{Kind: api.ExprCase, Kids: []api.Expr{{Kind: api.ExprVar, Name: "x"}}, Arms: []api.Arm{{Con: "A", Vars: []string{"y"}, Body: api.Expr{Kind: api.ExprHole}}}}
	if got := Strip(e); !same(got, want) {
		t.Errorf("Strip(%+v) = %+v", e, got)
	}
	for _, e := range all() {
		e = spare(numbered(e))
		before := preorder(e)
		got := Strip(e)
		if !slices.Equal(preorder(got), bare(e)) || !Equal(got, e) || !same(Strip(got), got) {
			t.Fatalf("Strip(%+v) = %+v", e, got)
		}
		if !slices.Equal(preorder(e), before) || !intact(e) {
			t.Fatalf("Strip has changed its argument to %+v", e)
		}
	}
}

// P0.1: no function panics for expressions that are not valid.
func TestAllArguments(t *testing.T) {
	l := strange()
	for i, e := range l {
		f := l[(i+1)%len(l)]
		Valid(e)
		Holes(e)
		With(e, []api.Expr{e, f})
		if Nodes(Strip(e)) < 1 || Depth(e) < 0 || !Equal(e, e) {
			t.Errorf("%+v", e)
		}
		for _, path := range [][]int{nil, {}, {0}, {1}, {0, 0}, {-1}, {math.MaxInt}, {math.MinInt, 0}} {
			At(e, path)
			Put(e, path, f)
		}
	}
}

// P0.1: expressions that are as deep as P0.8 allows are read to their ends.
func TestDeep(t *testing.T) {
	const depth = 65000
	e, path := deep(depth, variable("x")), []int{}
	for i := range depth {
		path = append(path, []int{0, 2, 0, 1, 0}[i%5])
	}
	if !Valid(e) || Valid(deep(depth, variable("X"))) || Depth(e) != depth || Nodes(e) != 117001 {
		t.Error("a deep expression is not read to its end")
	}
	if Equal(e, deep(depth, variable("y"))) || !Equal(e, Strip(e)) {
		t.Error("a deep expression is not compared to its end")
	}
	if x, found := At(e, path); !found || !same(x, variable("x")) {
		t.Errorf("At of a deep part = %+v, %v", x, found)
	}
	if x, found := Put(e, path, number(1)); !found || !Equal(x, deep(depth, number(1))) {
		t.Error("Put of a deep part")
	}
	if x, found := Put(e, append(path, 0), number(1)); found || !Equal(x, e) {
		t.Error("Put behind a deep part")
	}
	// The paths of many deep holes would take too much space.
	y := hole()
	for range depth {
		y = held(y)
	}
	if l := Holes(y); len(l) != 1 || !slices.Equal(l[0], make([]int, depth)) {
		t.Errorf("a deep hole is found %d times", len(l))
	}
}

package readprogram

import (
	"fmt"
	"math"
	"slices"
	"strconv"
	"testing"

	"typedholes/api"
	"typedholes/types"
)

// leveled is a part of an expression or a type with its level: the number of
// parts that it is inside of.
type leveled[T any] struct {
	part  T
	level int
}

// preorder lists the parts of a whole with their levels. It is the tests' second
// way to look at expressions and types, and has no recursion.
func preorder[T any](whole T, children func(T) []T) []leveled[T] {
	var out []leveled[T]
	left := []leveled[T]{{whole, 0}}
	for len(left) > 0 {
		x := left[len(left)-1]
		left = left[:len(left)-1]
		out = append(out, x)
		below := children(x.part)
		for i := range below {
			left = append(left, leveled[T]{below[len(below)-1-i], x.level + 1})
		}
	}
	return out
}

func exprs(e api.Expr) []leveled[api.Expr] {
	return preorder(e, func(e api.Expr) []api.Expr {
		out := slices.Clone(e.Kids)
		for _, a := range e.Arms {
			out = append(out, a.Body)
		}
		return out
	})
}

// levels returns the depth of a type.
func levels(t api.Type) int {
	deepest := 0
	for _, x := range preorder(t, func(t api.Type) []api.Type { return t.Args }) {
		deepest = max(deepest, x.level)
	}
	return deepest
}

// exprLimits lists what an expression exceeds, where its depth counts at pos.
func exprLimits(e api.Expr, pos int) []api.Fault {
	var depth, arms []api.Fault
	for _, x := range exprs(e) {
		if x.level > 40 || x.part.Kind == api.ExprAnn && levels(x.part.Type) > 40 {
			depth = append(depth, api.Fault{Err: api.ErrDepth, Pos: pos})
		}
		for _, a := range x.part.Arms {
			if len(a.Vars) > 4 {
				arms = append(arms, api.Fault{Err: api.ErrMany, Pos: a.Pos})
			}
		}
	}
	return append(depth, arms...)
}

// limits lists what a program exceeds, in the order of the chapter.
func limits(p api.Program) []api.Fault {
	var sizes, depths []api.Fault
	for i, d := range p.Datas {
		if i == 8 || len(d.Params) > 4 || len(d.Constructors) > 6 {
			sizes = append(sizes, api.Fault{Err: api.ErrMany, Pos: d.Pos})
		}
		for _, c := range d.Constructors {
			if len(c.Fields) > 4 {
				sizes = append(sizes, api.Fault{Err: api.ErrMany, Pos: c.Pos})
			}
			for _, field := range c.Fields {
				if levels(field) > 40 {
					depths = append(depths, api.Fault{Err: api.ErrDepth, Pos: d.Pos})
				}
			}
		}
	}
	for i, b := range p.Binds {
		if i == 16 {
			sizes = append(sizes, api.Fault{Err: api.ErrMany, Pos: b.Pos})
		}
		if b.HasSig && levels(b.Sig) > 40 {
			depths = append(depths, api.Fault{Err: api.ErrDepth, Pos: b.Pos})
		}
		depths = append(depths, exprLimits(b.Body, b.Pos)...)
	}
	return append(sizes, depths...)
}

func first(l []api.Fault) api.Fault {
	if len(l) == 0 {
		return api.Fault{}
	}
	return l[0]
}

func firstLimit(p api.Program) api.Fault { return first(limits(p)) }

func firstExprLimit(e api.Expr, pos int) api.Fault { return first(exprLimits(e, pos)) }

// The parts below have a size, a depth or a number, so that they are within a
// limit or exceed it.

func lowers(count int) []string {
	var out []string
	for i := range count {
		out = append(out, "a"+strconv.Itoa(i))
	}
	return out
}

func fields(count int) []api.Type { return slices.Repeat([]api.Type{types.Int()}, count) }

func constructors(count int) []api.Constructor {
	var out []api.Constructor
	for i := range count {
		out = append(out, api.Constructor{Pos: 900 + i, Name: "C" + strconv.Itoa(i)})
	}
	return out
}

// toTheRight returns a type of a depth, whose functions return functions.
func toTheRight(depth int) api.Type {
	t := name("a")
	for range depth {
		t = types.Arrow(name("b"), t)
	}
	return t
}

// toTheLeft returns a type of a depth, whose functions take functions.
func toTheLeft(depth int) api.Type {
	t := types.Int()
	for range depth {
		t = types.Arrow(t, name("b"))
	}
	return t
}

// inside returns a type of a depth, which is the second argument of others.
func inside(depth int) api.Type {
	t := name("a")
	for range depth {
		t = types.Con("T", name("b"), t, name("c"))
	}
	return t
}

func deepTypes(depth int) []api.Type {
	return []api.Type{toTheRight(depth), toTheLeft(depth), inside(depth)}
}

// wrappers returns functions that make a part a child of other expressions, as
// each of the children that there are.
func wrappers() []func(api.Expr) api.Expr {
	x := v(7, "x")
	return []func(api.Expr) api.Expr{
		func(e api.Expr) api.Expr { return lam(1, "x", e) },
		func(e api.Expr) api.Expr { return app(2, e, x) },
		func(e api.Expr) api.Expr { return app(2, x, e) },
		func(e api.Expr) api.Expr { return let(3, "y", e, x) },
		func(e api.Expr) api.Expr { return let(3, "y", x, e) },
		func(e api.Expr) api.Expr { return rec(4, "y", e, x) },
		func(e api.Expr) api.Expr { return rec(4, "y", x, e) },
		func(e api.Expr) api.Expr { return cases(5, e, arm(15, "A", x)) },
		func(e api.Expr) api.Expr { return cases(5, x, arm(15, "A", e), arm(16, "B", x)) },
		func(e api.Expr) api.Expr { return cases(5, x, arm(15, "A", x, "y", "z"), arm(16, "B", e)) },
		func(e api.Expr) api.Expr { return ann(6, e, types.Int()) },
		func(e api.Expr) api.Expr { return held(8, e) },
	}
}

// wrapped returns e inside of depth expressions.
func wrapped(wrap func(api.Expr) api.Expr, depth int, e api.Expr) api.Expr {
	for range depth {
		e = wrap(e)
	}
	return e
}

func declared(d api.Data) api.Program { return api.Program{Datas: []api.Data{d}} }

func bound(e api.Expr) api.Program {
	return api.Program{Binds: []api.Bind{{Pos: 500, Name: "f", Body: e}}}
}

// checkDeep compares Deep with the error that is wanted, and with the second way.
func checkDeep(t *testing.T, p api.Program, err api.Errno, pos int) {
	t.Helper()
	want := api.Fault{Err: err, Pos: pos}
	if got := Deep(p); got != want || firstLimit(p) != want {
		t.Errorf("Deep(%.300s) = %+v; want %+v", fmt.Sprintf("%+v", p), got, want)
	}
}

// P7.2: each number at its limit, and above it.
func TestDeepNumbers(t *testing.T) {
	checkDeep(t, api.Program{}, api.OK, 0)
	for count := range 20 {
		many := func(p api.Program, limit, pos int) {
			t.Helper()
			if count <= limit {
				checkDeep(t, p, api.OK, 0)
			} else {
				checkDeep(t, p, api.ErrMany, pos)
			}
		}
		var p, q api.Program
		for i := range count {
			p.Datas = append(p.Datas, api.Data{Pos: 100 + i, Name: "T", Constructors: constructors(1)})
			q.Binds = append(q.Binds, api.Bind{Pos: 100 + i, Name: "f", Body: hole(3)})
		}
		many(p, api.MaxDatas, 108)
		many(q, api.MaxBinds, 116)
		many(declared(api.Data{Pos: 60, Name: "T", Params: lowers(count), Constructors: constructors(1)}), api.MaxParams, 60)
		many(declared(api.Data{Pos: 61, Name: "T", Params: lowers(4), Constructors: constructors(count)}), api.MaxConstructors, 61)
		for i := range 6 {
			d := api.Data{Pos: 62, Name: "T", Constructors: constructors(6)}
			d.Constructors[i].Fields = fields(count)
			many(declared(d), api.MaxFields, 900+i)
			p := bound(cases(1, hole(2), slices.Repeat([]api.Arm{arm(3, "A", hole(4), lowers(4)...)}, 9)...))
			p.Binds[0].Body.Arms[i].Pos, p.Binds[0].Body.Arms[i].Vars = 70+i, lowers(count)
			many(p, api.MaxFields, 70+i)
		}
	}
	// Arms and arguments of types have no limit of their own here.
	checkDeep(t, bound(cases(1, hole(2), slices.Repeat([]api.Arm{arm(3, "A", hole(4))}, 100)...)), api.OK, 0)
	checkDeep(t, bound(ann(1, hole(2), types.Con("T", fields(50)...))), api.OK, 0)
}

// P7.2: types of a field, a signature and an annotation at the limit and above it.
func TestDeepTypes(t *testing.T) {
	for _, depth := range []int{0, 1, 39, 40, 41, 42, 100} {
		deep := func(p api.Program, pos int) {
			t.Helper()
			if depth <= 40 {
				checkDeep(t, p, api.OK, 0)
			} else {
				checkDeep(t, p, api.ErrDepth, pos)
			}
		}
		for _, x := range deepTypes(depth) {
			for i := range 4 {
				d := api.Data{Pos: 60, Name: "T", Constructors: constructors(5)}
				d.Constructors[i+1].Fields = fields(4)
				d.Constructors[i+1].Fields[i] = x
				deep(declared(d), 60)
				deep(api.Program{Datas: []api.Data{{Pos: 1}, {Pos: 2, Constructors: constructors(2)}, d}}, 60)
			}
			deep(api.Program{Binds: []api.Bind{{Pos: 30, Name: "f", HasSig: true, Sig: x, Body: hole(44)}}}, 30)
			deep(api.Program{Binds: []api.Bind{{Pos: 30, Name: "f", Body: hole(44)}, {Pos: 50, Name: "g", HasSig: true, Sig: x, Body: hole(64)}}}, 50)
			deep(bound(ann(1, hole(2), x)), 500)
			for _, wrap := range wrappers() {
				deep(bound(wrapped(wrap, 3, ann(1, hole(2), x))), 500)
				deep(bound(wrapped(wrap, 39, ann(1, hole(2), x))), 500)
			}
			// Only the type of an annotation and that of a signature count.
			checkDeep(t, bound(api.Expr{Kind: api.ExprVar, Name: "x", Type: x}), api.OK, 0)
			checkDeep(t, api.Program{Binds: []api.Bind{{Pos: 30, Name: "f", Sig: x, Body: hole(44)}}}, api.OK, 0)
		}
	}
}

// P7.2: bodies at the limit and above it.
func TestDeepBodies(t *testing.T) {
	for i, wrap := range wrappers() {
		for depth := range 45 {
			e := wrapped(wrap, depth, hole(9))
			want := api.Fault{}
			if depth > 40 {
				want = api.Fault{Err: api.ErrDepth, Pos: 500}
			}
			checkDeep(t, bound(e), want.Err, want.Pos)
			// The depths of types are not added to it, and the other way round.
			checkDeep(t, bound(wrapped(wrap, depth-1, ann(1, hole(2), toTheRight(40)))), want.Err, want.Pos)
			other := wrapped(wrappers()[(i+5)%len(wrappers())], 20, wrapped(wrap, depth-20, hole(9)))
			if depth >= 20 {
				checkDeep(t, bound(other), want.Err, want.Pos)
			}
		}
	}
}

// P0.1 and P0.8: types and bodies with as many levels as a program may have.
func TestDeepNested(t *testing.T) {
	const levels = 1 << 16
	want := api.Fault{Err: api.ErrDepth, Pos: 500}
	for _, wrap := range wrappers() {
		if got := Deep(bound(wrapped(wrap, levels, hole(9)))); got != want {
			t.Errorf("a body: %+v", got)
		}
	}
	for _, x := range deepTypes(levels) {
		if got := Deep(bound(ann(1, hole(2), x))); got != want {
			t.Errorf("an annotation: %+v", got)
		}
		if got := Deep(api.Program{Binds: []api.Bind{{Pos: 500, HasSig: true, Sig: x}}}); got != want {
			t.Errorf("a signature: %+v", got)
		}
		if got := Deep(declared(api.Data{Pos: 500, Constructors: []api.Constructor{{Fields: []api.Type{x}}}})); got != want {
			t.Errorf("a field: %+v", got)
		}
	}
}

// P7.2: the first arm, in preorder, in which the arms of an expression come before
// its children.
func TestDeepArms(t *testing.T) {
	wide := func(pos int, e api.Expr) api.Arm { return arm(pos, "A", e, lowers(5)...) }
	inner := func(pos int) api.Expr { return cases(1, hole(2), wide(pos, hole(3))) }
	for _, c := range []struct {
		e   api.Expr
		pos int
	}{
		{inner(80), 80},
		{cases(1, inner(20), arm(30, "A", hole(31)), wide(40, hole(41))), 40},
		{cases(1, inner(20), arm(30, "A", inner(31))), 20},
		{cases(1, hole(20), arm(30, "A", inner(31)), wide(40, hole(41))), 40},
		{cases(1, hole(20), wide(30, inner(31)), wide(25, inner(26))), 30},
		{cases(1, hole(20), arm(30, "A", hole(31)), arm(40, "A", inner(41)), arm(50, "A", inner(51))), 41},
		{cases(1, hole(20), arm(30, "A", app(31, hole(32), inner(33))), arm(40, "A", inner(34))), 33},
		{app(1, inner(90), inner(10)), 90},
		{app(1, lam(90, "x", held(91, inner(92))), cases(5, hole(6), wide(7, hole(8)))), 92},
		{let(1, "x", inner(50), inner(20)), 50},
		{let(1, "x", hole(50), inner(20)), 20},
		{rec(1, "x", inner(50), inner(20)), 50},
		{ann(1, inner(60), types.Int()), 60},
	} {
		checkDeep(t, bound(c.e), api.ErrMany, c.pos)
		for _, wrap := range wrappers() {
			checkDeep(t, bound(wrap(c.e)), api.ErrMany, c.pos)
		}
	}
}

// violation changes a program that has 8 declarations and 16 bindings such that
// it exceeds one limit more, and says with which error.
type violation struct {
	change func(*api.Program)
	fault  api.Fault
}

// violations lists changes in the order of their errors.
func violations() []violation {
	many := func(pos int, change func(*api.Program)) violation {
		return violation{change, api.Fault{Err: api.ErrMany, Pos: pos}}
	}
	depth := func(pos int, change func(*api.Program)) violation {
		return violation{change, api.Fault{Err: api.ErrDepth, Pos: pos}}
	}
	wide := func(pos int) api.Arm { return arm(pos, "A", hole(1), lowers(5)...) }
	deep := toTheLeft(41)
	return []violation{
		many(120, func(p *api.Program) { p.Datas[0].Constructors[0].Fields = fields(5) }),
		many(90, func(p *api.Program) { p.Datas[1].Params = lowers(5) }),
		many(123, func(p *api.Program) { p.Datas[1].Constructors[1].Fields = fields(6) }),
		many(80, func(p *api.Program) { p.Datas[2].Constructors = append(p.Datas[2].Constructors, constructors(5)...) }),
		many(124, func(p *api.Program) { p.Datas[2].Constructors[0].Fields = fields(7) }),
		many(20, func(p *api.Program) { p.Datas = append(p.Datas, api.Data{Pos: 20, Constructors: constructors(1)}) }),
		many(10, func(p *api.Program) { p.Binds = append(p.Binds, api.Bind{Pos: 10, Body: hole(1)}) }),
		depth(100, func(p *api.Program) { p.Datas[0].Constructors[1].Fields[1] = deep }),
		depth(90, func(p *api.Program) { p.Datas[1].Constructors[0].Fields[0] = deep }),
		depth(30, func(p *api.Program) { p.Datas[7].Constructors[0].Fields[0] = deep }),
		many(320, func(p *api.Program) { p.Binds[0].Body.Kids[1].Arms[0] = wide(320) }),
		depth(299, func(p *api.Program) { p.Binds[1].HasSig, p.Binds[1].Sig = true, deep }),
		many(312, func(p *api.Program) { p.Binds[1].Body.Kids[1].Arms[0] = wide(312) }),
		depth(298, func(p *api.Program) { p.Binds[2].Body.Kids[0] = wrapped(wrappers()[0], 40, hole(1)) }),
		many(311, func(p *api.Program) { p.Binds[2].Body.Kids[1].Arms[0] = wide(311) }),
		many(310, func(p *api.Program) { p.Binds[3].Body.Kids[1].Arms[0] = wide(310) }),
		depth(285, func(p *api.Program) { p.Binds[15].Body.Kids[0] = ann(1, hole(2), deep) }),
	}
}

// full returns a program at the limits for declarations and bindings, in which
// later positions are lower ones.
func full() api.Program {
	var p api.Program
	for i := range 8 {
		var l []api.Constructor
		for k := range 2 {
			l = append(l, api.Constructor{Pos: 120 + 2*i + k, Name: "C", Fields: []api.Type{name("a"), types.Int()}})
		}
		p.Datas = append(p.Datas, api.Data{Pos: 100 - 10*i, Name: "T", Params: lowers(4), Constructors: l})
	}
	for i := range 16 {
		p.Binds = append(p.Binds, api.Bind{Pos: 300 - i, Name: "f", Body: app(1, hole(2), cases(3, hole(4), arm(5, "A", hole(6), "x")))})
	}
	return p
}

// P7.2: of two limits that are exceeded the first one in the chapter's order is
// returned, wherever it is in the text.
func TestDeepOrder(t *testing.T) {
	checkDeep(t, full(), api.OK, 0)
	l := violations()
	for i, a := range l {
		p := full()
		a.change(&p)
		checkDeep(t, p, a.fault.Err, a.fault.Pos)
		for _, b := range l[i+1:] {
			p := full()
			a.change(&p)
			b.change(&p)
			checkDeep(t, p, a.fault.Err, a.fault.Pos)
		}
		p = full()
		for _, b := range l[i:] {
			b.change(&p)
		}
		checkDeep(t, p, a.fault.Err, a.fault.Pos)
	}
}

// P7.2: the declaration after MaxDatas is one of the errors of declarations, which
// come in order.
func TestDeepNinth(t *testing.T) {
	for i := range 12 {
		var p api.Program
		for k := range 12 {
			p.Datas = append(p.Datas, api.Data{Pos: 200 - k, Name: "T", Constructors: constructors(3)})
		}
		p.Datas[i].Constructors[2].Fields = fields(5)
		if i < 8 {
			checkDeep(t, p, api.ErrMany, 902)
		} else {
			checkDeep(t, p, api.ErrMany, 192)
		}
		p.Datas[i].Params = lowers(5)
		checkDeep(t, p, api.ErrMany, 200-min(i, 8))
	}
}

// P0.1 and P0.6: programs that are not valid have an error, or none.
func TestDeepOfInvalid(t *testing.T) {
	for _, p := range []api.Program{
		{Datas: []api.Data{{}}},
		{Binds: []api.Bind{{}}},
		{Datas: make([]api.Data, 100), Binds: make([]api.Bind, 100)},
		{Datas: []api.Data{{Pos: math.MinInt, Params: lowers(9)}}},
		{Datas: []api.Data{{Pos: -1, Constructors: []api.Constructor{{Pos: -2, Fields: make([]api.Type, 5)}}}}},
		{Binds: []api.Bind{{Pos: math.MaxInt, Rec: true, HasSig: true, Sig: api.Type{Kind: 99, Args: make([]api.Type, 3)}}}},
		bound(api.Expr{Kind: api.ExprAnn}),
		bound(api.Expr{Kind: api.ExprCase}),
		bound(api.Expr{Kind: -1, Kids: make([]api.Expr, 3), Arms: make([]api.Arm, 3)}),
		bound(api.Expr{Kind: api.ExprApp, Kids: make([]api.Expr, 1), Arms: []api.Arm{arm(math.MinInt, "", hole(-1), make([]string, 5)...)}}),
	} {
		if got := Deep(p); got != firstLimit(p) {
			t.Errorf("Deep(%+v) = %+v; want %+v", p, got, firstLimit(p))
		}
	}
}

// P0.4: Deep does not change its argument.
func TestDeepArgument(t *testing.T) {
	for _, c := range violations() {
		p := full()
		c.change(&p)
		before := fmt.Sprintf("%+v %+v", p.Datas[:cap(p.Datas)], p.Binds[:cap(p.Binds)])
		Deep(p)
		if fmt.Sprintf("%+v %+v", p.Datas[:cap(p.Datas)], p.Binds[:cap(p.Binds)]) != before {
			t.Errorf("Deep has changed its argument to %+v", p)
		}
	}
}

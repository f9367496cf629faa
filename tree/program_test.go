package tree

import (
	"fmt"
	"slices"
	"testing"

	"typedholes/api"
	"typedholes/types"
)

// programs returns programs with and without data declarations and bindings.
func programs() []api.Program {
	a, list := typeName("a"), types.Con("List", typeName("a"))
	datas := []api.Data{
		{Pos: 1, Name: "List", Params: []string{"a"}, Constructors: []api.Constructor{{Pos: 13, Name: "Nil"}, {Pos: 19, Name: "Cons", Fields: []api.Type{a, list}}}},
		{Pos: 40, Name: "Unit", Constructors: []api.Constructor{{Pos: 51, Name: "Unit"}}},
		{Pos: 60, Name: "Pair", Params: []string{"a", "b"}, Constructors: []api.Constructor{{Pos: 71, Name: "Pair", Fields: []api.Type{a, typeName("b")}}}},
	}
	binds := []api.Bind{
		{Pos: 100, Name: "x", Body: hole()},
		{Pos: 110, Rec: true, Name: "f", HasSig: true, Sig: types.Arrow(a, list), Body: lam("x", app(variable("f"), hole()))},
		{Pos: 120, Name: "g", Body: analysis(variable("x"), arm("Nil", hole()), arm("Cons", held(variable("h")), "h", "t"))},
	}
	out := []api.Program{{}, {Datas: datas}, {Binds: binds}, {Datas: datas, Binds: binds}, {Datas: datas[:1], Binds: binds[1:2]}, {Datas: datas[1:], Binds: binds[2:]},
		{Datas: []api.Data{{}}, Binds: []api.Bind{{}}}, {Datas: []api.Data{{Pos: -1, Constructors: []api.Constructor{{Pos: -2}, {}}}}, Binds: []api.Bind{{Pos: -3, Sig: types.Var(-1), Body: strange()[5]}}}}
	for i, e := range samples() {
		if i%9 == 0 {
			out = append(out, api.Program{Datas: datas[:i%4], Binds: []api.Bind{binds[i%3], {Pos: i + 1, Rec: i%2 == 0, Name: "e", Body: e}}})
		}
	}
	return out
}

// lines is the tests' second way to look at programs: texts of all parts in
// order, where positions become 0 if they are not kept.
func lines(p api.Program, kept bool) []string {
	at := func(pos int) int {
		if kept {
			return pos
		}
		return 0
	}
	var out []string
	for _, d := range p.Datas {
		out = append(out, fmt.Sprintf("data %d %q %q", at(d.Pos), d.Name, d.Params))
		for _, c := range d.Constructors {
			out = append(out, fmt.Sprintf("constructor %d %q %+v", at(c.Pos), c.Name, c.Fields))
		}
	}
	for _, b := range p.Binds {
		out = append(out, fmt.Sprintf("bind %d %v %q %v %+v", at(b.Pos), b.Rec, b.Name, b.HasSig, b.Sig))
		for _, n := range list(b.Body, at) {
			out = append(out, fmt.Sprintf("%+v", n))
		}
	}
	return out
}

// spareProgram returns p with lists that have capacity left, which is filled
// with marks.
func spareProgram(p api.Program) api.Program {
	var datas []api.Data
	for _, d := range p.Datas {
		d.Constructors = append(slices.Clone(d.Constructors), api.Constructor{Pos: 5, Name: "Mark"}, api.Constructor{Pos: 5, Name: "Mark"})[:len(d.Constructors)]
		datas = append(datas, d)
	}
	var binds []api.Bind
	for _, b := range p.Binds {
		b.Body = spare(b.Body)
		binds = append(binds, b)
	}
	p.Datas = append(datas, api.Data{Pos: 5, Name: "Mark"}, api.Data{Pos: 5, Name: "Mark"})[:len(datas)]
	p.Binds = append(binds, api.Bind{Pos: 5, Name: "mark"}, api.Bind{Pos: 5, Name: "mark"})[:len(binds)]
	return p
}

// intactProgram reports whether the marks that spareProgram has left are still
// there.
func intactProgram(p api.Program) bool {
	for _, d := range p.Datas {
		for _, mark := range d.Constructors[len(d.Constructors) : len(d.Constructors)+2] {
			if mark.Name != "Mark" || mark.Pos != 5 {
				return false
			}
		}
	}
	for i := range 2 {
		d, b := p.Datas[:len(p.Datas)+2][len(p.Datas)+i], p.Binds[:len(p.Binds)+2][len(p.Binds)+i]
		if d.Name != "Mark" || d.Pos != 5 || b.Name != "mark" || b.Pos != 5 {
			return false
		}
	}
	return !slices.ContainsFunc(p.Binds, func(b api.Bind) bool { return !intact(b.Body) })
}

// P4.4: StripProgram sets all positions to 0, and nothing else.
func TestStripProgram(t *testing.T) {
	for _, p := range programs() {
		p = spareProgram(p)
		before := lines(p, true)
		got := StripProgram(p)
		if !slices.Equal(lines(got, true), lines(p, false)) {
			t.Fatalf("StripProgram(%+v) = %+v", p, got)
		}
		if !slices.Equal(lines(p, true), before) || !intactProgram(p) {
			t.Fatalf("StripProgram has changed its argument to %+v", p)
		}
		if !EqualProgram(got, p) || !EqualProgram(p, got) {
			t.Fatalf("%+v is not equal to %+v", got, p)
		}
	}
}

// P4.4: EqualProgram compares all fields other than positions.
func TestEqualProgram(t *testing.T) {
	l := programs()
	for _, a := range l {
		for _, b := range l {
			if got := EqualProgram(a, b); got != slices.Equal(lines(a, false), lines(b, false)) {
				t.Fatalf("EqualProgram(%+v, %+v) is %v", a, b, got)
			}
		}
	}
}

// P4.4: programs that differ in one field are not equal.
func TestEqualProgramOfChanged(t *testing.T) {
	p := programs()[3]
	for i, change := range []func(p *api.Program){
		func(p *api.Program) { p.Datas = p.Datas[:2] },
		func(p *api.Program) { p.Datas = p.Datas[1:] },
		func(p *api.Program) { slices.Reverse(p.Datas) },
		func(p *api.Program) { p.Datas[2].Name = "Pairs" },
		func(p *api.Program) { p.Datas[2].Params = []string{"a"} },
		func(p *api.Program) { p.Datas[2].Params = []string{"b", "a"} },
		func(p *api.Program) { p.Datas[0].Constructors = p.Datas[0].Constructors[:1] },
		func(p *api.Program) { p.Datas[0].Constructors[1].Name = "Con" },
		func(p *api.Program) { p.Datas[0].Constructors[1].Fields = []api.Type{typeName("a")} },
		func(p *api.Program) {
			p.Datas[0].Constructors[1].Fields = []api.Type{typeName("a"), types.Con("List", typeName("b"))}
		},
		func(p *api.Program) { p.Binds = p.Binds[:2] },
		func(p *api.Program) { p.Binds = p.Binds[1:] },
		func(p *api.Program) { slices.Reverse(p.Binds) },
		func(p *api.Program) { p.Binds[0].Rec = true },
		func(p *api.Program) { p.Binds[1].Rec = false },
		func(p *api.Program) { p.Binds[1].Name = "g" },
		func(p *api.Program) { p.Binds[1].HasSig = false },
		func(p *api.Program) { p.Binds[0].HasSig = true },
		func(p *api.Program) { p.Binds[1].Sig = typeName("a") },
		func(p *api.Program) { p.Binds[0].Sig = typeName("a") }, // in all fields, also without a signature
		func(p *api.Program) { p.Binds[2].Body.Arms[1].Body = variable("h") },
		func(p *api.Program) { p.Binds[2].Body.Arms[1].Vars = []string{"t", "h"} },
		func(p *api.Program) { p.Binds[0].Body = variable("x") },
	} {
		other := programs()[3]
		change(&other)
		if EqualProgram(p, other) || EqualProgram(other, p) {
			t.Errorf("change %d: %+v is equal to %+v", i, p, other)
		}
	}
}

// P4.4: neither positions nor the kind of empty lists matter.
func TestEqualProgramOfPositions(t *testing.T) {
	a, b := programs()[3], programs()[3]
	b.Datas[1].Params, b.Datas[1].Constructors[0].Fields = []string{}, []api.Type{}
	b.Binds[0].Sig.Args, b.Binds[0].Body.Kids, b.Binds[0].Body.Arms = []api.Type{}, []api.Expr{}, []api.Arm{}
	b.Datas[0].Pos, b.Datas[2].Constructors[0].Pos, b.Binds[1].Pos, b.Binds[1].Body.Pos, b.Binds[2].Body.Arms[1].Pos = 500, 501, 502, 503, 504
	if !EqualProgram(a, b) || !EqualProgram(b, a) {
		t.Errorf("%+v is not equal to %+v", a, b)
	}
	if !EqualProgram(api.Program{}, api.Program{Datas: []api.Data{}, Binds: []api.Bind{}}) {
		t.Error("empty programs are not equal")
	}
}

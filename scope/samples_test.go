package scope

import (
	"math"
	"slices"
	"strings"
	"testing"

	"typedholes/api"
	"typedholes/declare"
	"typedholes/readprogram"
	"typedholes/types"
)

func v(name string) api.Expr { return api.Expr{Kind: api.ExprVar, Name: name} }

func lam(name string, body api.Expr) api.Expr {
	return api.Expr{Kind: api.ExprLam, Name: name, Kids: []api.Expr{body}}
}

// programOf returns the program of a text.
func programOf(t *testing.T, src string) api.Program {
	t.Helper()
	p, f := readprogram.Parse(src)
	if f.Err != api.OK {
		t.Fatalf("Parse(%q) fails: %+v", src, f)
	}
	return p
}

// exprOf returns the expression of a text.
func exprOf(t *testing.T, src string) api.Expr {
	t.Helper()
	e, f := readprogram.ParseExpr(src)
	if f.Err != api.OK {
		t.Fatalf("ParseExpr(%q) fails: %+v", src, f)
	}
	return e
}

// part is a part of an expression with its path and the names that are visible
// there, each once.
type part struct {
	e     api.Expr
	path  []int
	names []string
}

// child is a child of a part that also has these names.
func (p part) child(e api.Expr, index int, names ...string) part {
	visible := slices.Clone(p.names)
	for _, name := range names {
		visible = slices.DeleteFunc(visible, func(other string) bool { return other == name })
		visible = append(visible, name)
	}
	return part{e, append(slices.Clone(p.path), index), visible}
}

func (p part) children() []part {
	kids := p.e.Kids
	switch p.e.Kind {
	case api.ExprLam:
		return []part{p.child(kids[0], 0, p.e.Name)}
	case api.ExprLet:
		return []part{p.child(kids[0], 0), p.child(kids[1], 1, p.e.Name)}
	case api.ExprRec:
		return []part{p.child(kids[0], 0, p.e.Name), p.child(kids[1], 1, p.e.Name)}
	case api.ExprApp:
		return []part{p.child(kids[0], 0), p.child(kids[1], 1)}
	case api.ExprAnn, api.ExprHeld:
		return []part{p.child(kids[0], 0)}
	case api.ExprCase:
		out := []part{p.child(kids[0], 0)}
		for i, a := range p.e.Arms {
			out = append(out, p.child(a.Body, i+1, a.Vars...))
		}
		return out
	}
	return nil
}

// parts lists the parts of a valid expression in preorder. It is the tests'
// second way to look at scopes, and has no recursion.
func parts(e api.Expr, names ...string) []part {
	var out []part
	for left := []part{{e: e, names: names}}; len(left) > 0; {
		p := left[0]
		out = append(out, p)
		left = append(p.children(), left[1:]...)
	}
	return out
}

// fieldCounts gives the declared constructors the numbers of their fields.
func fieldCounts(datas []api.Data) map[string]int {
	counts := map[string]int{}
	for _, data := range datas {
		for _, c := range data.Constructors {
			counts[c.Name] = len(c.Fields)
		}
	}
	return counts
}

// families lists the constructors of each declaration, as one text.
func families(datas []api.Data) []string {
	var out []string
	for _, data := range datas {
		var names []string
		for _, c := range data.Constructors {
			names = append(names, c.Name)
		}
		out = append(out, strings.Join(names, "|"))
	}
	return out
}

// family returns the constructors of arms as one text.
func family(arms []api.Arm) string {
	var names []string
	for _, a := range arms {
		names = append(names, a.Con)
	}
	return strings.Join(names, "|")
}

// faults lists all errors of a part apart from its children, in the order of the
// chapter.
func (p part) faults(datas []api.Data) []api.Fault {
	var out []api.Fault
	add := func(is bool, err api.Errno, pos int) {
		if is {
			out = append(out, api.Fault{Err: err, Pos: pos})
		}
	}
	counts := fieldCounts(datas)
	_, isDeclared := counts[p.e.Name]
	add(p.e.Kind == api.ExprVar && !slices.Contains(p.names, p.e.Name), api.ErrScope, p.e.Pos)
	add(p.e.Kind == api.ExprCon && !isDeclared, api.ErrScope, p.e.Pos)
	for _, a := range p.e.Arms {
		_, isDeclared := counts[a.Con]
		add(!isDeclared, api.ErrScope, a.Pos)
	}
	add(p.e.Kind == api.ExprCase && !slices.Contains(families(datas), family(p.e.Arms)), api.ErrArms, p.e.Pos)
	for _, a := range p.e.Arms {
		different := map[string]bool{}
		for _, name := range a.Vars {
			different[name] = true
		}
		add(len(a.Vars) != counts[a.Con], api.ErrArity, a.Pos)
		add(len(a.Vars) != len(different), api.ErrDuplicate, a.Pos)
	}
	if p.e.Kind == api.ExprAnn {
		err := declare.Formed(datas, p.e.Type, nil)
		add(err != api.OK, err, p.e.Pos)
	}
	return out
}

// firstFault returns the first error of an expression.
func firstFault(datas []api.Data, names []string, e api.Expr) api.Fault {
	for _, p := range parts(e, names...) {
		if l := p.faults(datas); len(l) > 0 {
			return l[0]
		}
	}
	return api.Fault{}
}

const sampleDatas = "data O a = N | S a; data P a b = P a b; data E = E;"

// sampleLeaves and samplePlaces have all errors; @ is for a part.

func sampleLeaves() []string { return []string{"x", "y", "?", "1", "N", "S", "U", "z"} }

func samplePlaces() []string {
	return []string{
		`\x. @`, `\y. @`, `(@) (@)`, `let x = @ in @`, `let y = @ in @`, `let rec x = @ in @`, `let rec y = @ in @`, `{@}`,
		`(@ : O Int)`, `(@ : P E Int -> E)`, `(@ : O)`, `(@ : x)`, `(@ : O U)`,
		`case @ of N. @ | S x. @ end`, `case @ of N. @ | S y. @ end`, `case @ of P x y. @ end`, `case @ of P y x. @ end`, `case @ of E. @ end`,
		`case @ of S x. @ | N. @ end`, `case @ of N. @ end`, `case @ of N. @ | S x. @ | S y. @ end`, `case @ of N. @ | P x y. @ end`, `case @ of O. @ end`, `case @ of N. @ | U. @ end`,
		`case @ of P x. @ end`, `case @ of P x x. @ end`, `case @ of P x y x. @ end`, `case @ of P. @ end`, `case @ of N x. @ | S y y. @ end`, `case @ of N. @ | S. @ end`, `case @ of E x. @ end`,
	}
}

// filled returns each text at each place of each sample, with leaves at the other
// places; of these, every step-th one.
func filled(texts []string, step int) []string {
	var out []string
	count := 0
	for _, place := range samplePlaces() {
		pieces := strings.Split(place, "@")
		for at := range len(pieces) - 1 {
			for _, text := range texts {
				count++
				if count%step != 0 {
					continue
				}
				whole := pieces[0]
				for i, piece := range pieces[1:] {
					if i == at {
						whole += text + piece
					} else {
						whole += sampleLeaves()[(count/step+i*3)%8] + piece
					}
				}
				out = append(out, whole)
			}
		}
	}
	return out
}

// samples returns expressions with all errors at different places, and without.
func samples(t *testing.T) []api.Expr {
	one := filled(sampleLeaves(), 1)
	two := filled(one, 3)
	var out []api.Expr
	for _, src := range slices.Concat(sampleLeaves(), one, two, filled(two, 29)) {
		out = append(out, exprOf(t, src))
	}
	return out
}

// strange returns expressions that are not valid.
func strange() []api.Expr {
	x, nothing := v("x"), api.Expr{}
	var out []api.Expr
	for kind := -1; kind <= 12; kind++ {
		for _, kids := range [][]api.Expr{nil, {}, {x}, {x, nothing}, {x, x, x, x}} {
			for _, arms := range [][]api.Arm{nil, {}, {{}}, {{Pos: -3, Con: "E", Vars: []string{"", "a", ""}, Body: x}, {Con: "E"}, {Con: "\xff", Body: x}}, {{Con: "E", Vars: slices.Repeat([]string{"x"}, 500), Body: v("")}}} {
				out = append(out, api.Expr{Kind: kind, Pos: -7, Name: []string{"", "x", "\xff"}[(kind+4)%3], Num: math.MinInt, Kids: kids, Arms: arms, Type: types.Con("->", api.Type{})})
			}
		}
	}
	return append(out, api.Expr{Kind: math.MaxInt, Kids: []api.Expr{x}}, api.Expr{Kind: math.MinInt, Arms: []api.Arm{{Vars: []string{"x"}}}})
}

// spare returns a list with capacity left, which is filled with a mark.
func spare[T any](l []T, mark T) []T {
	return append(slices.Clone(l), mark, mark)[:len(l)]
}

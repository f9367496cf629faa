package names

import (
	"fmt"
	"math"
	"slices"
	"strconv"
	"strings"
	"testing"

	"typedholes/api"
	"typedholes/readprogram"
	"typedholes/tree"
	"typedholes/types"
)

// exprOf returns the expression of a text.
func exprOf(t *testing.T, src string) api.Expr {
	t.Helper()
	e, f := readprogram.ParseExpr(src)
	if f.Err != api.OK {
		t.Fatalf("ParseExpr(%q) fails: %+v", src, f)
	}
	return e
}

func v(name string) api.Expr { return api.Expr{Kind: api.ExprVar, Name: name} }

func lam(name string, body api.Expr) api.Expr {
	return api.Expr{Kind: api.ExprLam, Name: name, Kids: []api.Expr{body}}
}

func app(a, b api.Expr) api.Expr { return api.Expr{Kind: api.ExprApp, Kids: []api.Expr{a, b}} }

// binder is a binding occurrence: the path of its expression, as a text, and for
// one of an arm the indices of the child and of the variable.
type binder struct {
	path         string
	child, index int
}

var free = binder{path: "free"}

func slash(path []int) string { return fmt.Sprint(path) }

// scopes lists the binding occurrences around the part of e at a path, with their
// names, the outermost first. It is the tests' second way to look at scopes.
func scopes(e api.Expr, path []int) ([]binder, []string) {
	var binders []binder
	var names []string
	for depth, i := range path {
		here := slash(path[:depth])
		switch {
		case e.Kind == api.ExprLam, e.Kind == api.ExprRec, e.Kind == api.ExprLet && i > 0:
			binders, names = append(binders, binder{here, 0, 0}), append(names, e.Name)
		case e.Kind == api.ExprCase && i > 0:
			for k, name := range e.Arms[i-1].Vars {
				binders, names = append(binders, binder{here, i, k}), append(names, name)
			}
		}
		e = append(slices.Clone(e.Kids), bodies(e)...)[i]
	}
	return binders, names
}

func bodies(e api.Expr) []api.Expr {
	var out []api.Expr
	for _, a := range e.Arms {
		out = append(out, a.Body)
	}
	return out
}

// paths lists the paths of all parts of e in preorder.
func paths(e api.Expr) [][]int {
	var out [][]int
	var visit func(path []int, e api.Expr)
	visit = func(path []int, e api.Expr) {
		out = append(out, path)
		for i, child := range append(slices.Clone(e.Kids), bodies(e)...) {
			visit(append(slices.Clone(path), i), child)
		}
	}
	visit(nil, e)
	return out
}

func at(e api.Expr, path []int) api.Expr {
	part, _ := tree.At(e, path)
	return part
}

func put(e api.Expr, path []int, part api.Expr) api.Expr {
	e, _ = tree.Put(e, path, part)
	return e
}

// variables gives the paths of the variables of e, in preorder, with what binds
// them.
func variables(e api.Expr) ([][]int, []binder) {
	var where [][]int
	var by []binder
	for _, path := range paths(e) {
		if part := at(e, path); part.Kind == api.ExprVar {
			binders, names := scopes(e, path)
			found := free
			for i, name := range names {
				if name == part.Name {
					found = binders[i]
				}
			}
			where, by = append(where, path), append(by, found)
		}
	}
	return where, by
}

// freeNames is Free, found in the second way.
func freeNames(e api.Expr) []string {
	var out []string
	where, by := variables(e)
	for i, path := range where {
		if name := at(e, path).Name; by[i] == free && !slices.Contains(out, name) {
			out = append(out, name)
		}
	}
	return out
}

// nameless returns a text of e in which bound names are replaced by the number of
// bindings between them and their own, and free variables by other texts if put
// has them.
func nameless(e api.Expr, put map[string]string, bound ...string) string {
	below := func(i int, names ...string) string {
		return "(" + nameless(e.Kids[i], put, append(slices.Clone(bound), names...)...) + ")"
	}
	switch e.Kind {
	case api.ExprVar:
		for i, name := range slices.Backward(bound) {
			if name == e.Name {
				return "#" + strconv.Itoa(len(bound)-1-i)
			}
		}
		if text, is := put[e.Name]; is {
			return text
		}
		return e.Name
	case api.ExprLam:
		return "lam" + below(0, e.Name)
	case api.ExprLet:
		return "let" + below(0) + below(1, e.Name)
	case api.ExprRec:
		return "rec" + below(0, e.Name) + below(1, e.Name)
	}
	out := fmt.Sprint(e.Kind, e.Name, e.Num, e.Type)
	for i := range e.Kids {
		out += below(i)
	}
	for _, a := range e.Arms {
		out += a.Con + strconv.Itoa(len(a.Vars)) + "(" + nameless(a.Body, put, append(slices.Clone(bound), a.Vars...)...) + ")"
	}
	return out
}

// positions lists all positions of e.
func positions(e api.Expr) []int {
	var out []int
	for _, path := range paths(e) {
		part := at(e, path)
		out = append(out, part.Pos)
		for _, a := range part.Arms {
			out = append(out, a.Pos)
		}
	}
	return out
}

// The places of the samples bind names in all ways; @ is for a part.

func sampleLeaves() []string { return []string{"x", "y", "v1", "z", "v2", "?", "1", "N"} }

func samplePlaces() []string {
	return []string{
		`\x. @`, `\y. @`, `\z. @`, `\v1. @`, `\v2. @`, `(@) (@)`, `{@}`, `(@ : Int)`, `(@ : O Int)`,
		`let x = @ in @`, `let y = @ in @`, `let v1 = @ in @`, `let rec x = @ in @`, `let rec y = @ in @`, `let rec v1 = @ in @`,
		`case @ of N. @ | S x. @ end`, `case @ of N. @ | S y. @ end`, `case @ of P x y. @ end`, `case @ of P y x. @ end`, `case @ of P y z. @ end`, `case @ of P z y. @ | P v1 y. @ end`, `case @ of Q v1 y z v2. @ end`,
	}
}

// filled returns each text at each place of each sample, with leaves at the other
// places; of these, every step-th one.
func filled(texts []string, step int) []string {
	var out []string
	count := 0
	for _, place := range samplePlaces() {
		pieces := strings.Split(place, "@")
		for hole := range len(pieces) - 1 {
			for _, text := range texts {
				count++
				if count%step != 0 {
					continue
				}
				whole := pieces[0]
				for i, piece := range pieces[1:] {
					if i == hole {
						whole += text + piece
					} else {
						whole += sampleLeaves()[(count/step+i*3)%8] + piece
					}
				}
				out = append(out, whole)
			}
		}
	}
	return out
}

// samples returns expressions of up to four levels.
func samples(t *testing.T) []api.Expr {
	one := filled(sampleLeaves(), 1)
	two := filled(one, 5)
	three := filled(two, 37)
	var out []api.Expr
	for _, src := range slices.Concat(sampleLeaves(), one, two, three, filled(three, 23)) {
		out = append(out, exprOf(t, src))
	}
	return out
}

// few returns every step-th expression.
func few(l []api.Expr, step int) []api.Expr {
	var out []api.Expr
	for i := 0; i < len(l); i += step {
		out = append(out, l[i])
	}
	return out
}

// strange returns expressions that are not valid.
func strange() []api.Expr {
	x, nothing := v("x"), api.Expr{}
	var out []api.Expr
	for kind := -1; kind <= 12; kind++ {
		for _, kids := range [][]api.Expr{nil, {}, {x}, {x, nothing}, {lam("y", x), x, x, x}} {
			for _, arms := range [][]api.Arm{nil, {}, {{}}, {{Pos: -3, Con: "E", Vars: []string{"", "y", ""}, Body: x}, {Con: "E"}, {Con: "\xff", Vars: []string{"y", "y", "x"}, Body: x}}, {{Con: "E", Vars: slices.Repeat([]string{"y"}, 300), Body: x}}} {
				out = append(out, api.Expr{Kind: kind, Pos: -7, Name: []string{"", "x", "y", "\xff"}[(kind+4)%4], Num: math.MinInt, Kids: kids, Arms: arms, Type: types.Con("->", api.Type{})})
			}
		}
	}
	return append(out, api.Expr{Kind: math.MaxInt, Kids: []api.Expr{x}}, api.Expr{Kind: math.MinInt, Arms: []api.Arm{{Vars: []string{"x"}}}})
}

// spare returns e with lists that have capacity left, which is filled with marks.
func spare(e api.Expr) api.Expr {
	kids, arms := slices.Clone(e.Kids), slices.Clone(e.Arms)
	for i := range kids {
		kids[i] = spare(kids[i])
	}
	for i, a := range arms {
		arms[i].Vars = append(slices.Clone(a.Vars), "mark", "mark")[:len(a.Vars)]
		arms[i].Body = spare(a.Body)
	}
	mark := api.Expr{Kind: api.ExprVar, Name: "mark"}
	e.Kids = append(kids, mark, mark)[:len(kids)]
	e.Arms = append(arms, api.Arm{Con: "Mark"}, api.Arm{Con: "Mark"})[:len(arms)]
	return e
}

// intact reports whether the marks that spare has left are still there.
func intact(e api.Expr) bool {
	for i := range 2 {
		if e.Kids[:len(e.Kids)+2][len(e.Kids)+i].Name != "mark" || e.Arms[:len(e.Arms)+2][len(e.Arms)+i].Con != "Mark" {
			return false
		}
		for _, a := range e.Arms {
			if a.Vars[:len(a.Vars)+2][len(a.Vars)+i] != "mark" {
				return false
			}
		}
	}
	return !slices.ContainsFunc(append(slices.Clone(e.Kids), bodies(e)...), func(e api.Expr) bool { return !intact(e) })
}

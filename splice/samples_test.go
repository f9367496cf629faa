package splice

import (
	"math"
	"slices"
	"strings"
	"testing"

	"typedholes/api"
	"typedholes/readprogram"
	"typedholes/types"
)

func v(name string) api.Expr { return api.Expr{Kind: api.ExprVar, Name: name} }

func lam(name string, body api.Expr) api.Expr {
	return api.Expr{Kind: api.ExprLam, Name: name, Kids: []api.Expr{body}}
}

func app(e api.Expr, arguments ...api.Expr) api.Expr {
	for _, argument := range arguments {
		e = api.Expr{Kind: api.ExprApp, Kids: []api.Expr{e, argument}}
	}
	return e
}

func held(e api.Expr) api.Expr { return api.Expr{Kind: api.ExprHeld, Kids: []api.Expr{e}} }

func hole() api.Expr { return api.Expr{Kind: api.ExprHole} }

// programOf returns the program of a text.
func programOf(t *testing.T, src string) api.Program {
	t.Helper()
	p, f := readprogram.Parse(src)
	if f.Err != api.OK {
		t.Fatalf("Parse(%q) fails: %+v", src, f)
	}
	return p
}

// exprOf returns the expression of a text.
func exprOf(t *testing.T, src string) api.Expr {
	t.Helper()
	e, f := readprogram.ParseExpr(src)
	if f.Err != api.OK {
		t.Fatalf("ParseExpr(%q) fails: %+v", src, f)
	}
	return e
}

// offsets lists where the holes of a text without comments begin: their order there
// is their order in the program. It is the tests' second way to count and find
// holes.
func offsets(src string) []int {
	var out []int
	for i := range len(src) {
		if src[i] == '?' {
			out = append(out, i)
		}
	}
	return out
}

// hide returns names, of which those that are bound again are at their new place.
func hide(names []string, bound ...string) []string {
	out := slices.Clone(names)
	for _, name := range bound {
		out = slices.DeleteFunc(out, func(other string) bool { return other == name })
		out = append(out, name)
	}
	return out
}

// namesAtHoles lists the visible names for all holes, in order: the tests' second
// way to look at them goes through the program from its beginning.
func namesAtHoles(p api.Program) [][]string {
	var out [][]string
	var earlier []string
	for _, bind := range p.Binds {
		inside := earlier
		if bind.Rec {
			inside = hide(earlier, bind.Name)
		}
		out = append(out, namesBelow(bind.Body, inside)...)
		earlier = hide(earlier, bind.Name)
	}
	return out
}

func namesBelow(e api.Expr, names []string) [][]string {
	var out [][]string
	switch e.Kind {
	case api.ExprHole:
		return [][]string{names}
	case api.ExprLam:
		return namesBelow(e.Kids[0], hide(names, e.Name))
	case api.ExprLet:
		return append(namesBelow(e.Kids[0], names), namesBelow(e.Kids[1], hide(names, e.Name))...)
	case api.ExprRec:
		names = hide(names, e.Name)
	}
	for _, kid := range e.Kids {
		out = append(out, namesBelow(kid, names)...)
	}
	for _, arm := range e.Arms {
		out = append(out, namesBelow(arm.Body, hide(names, arm.Vars...))...)
	}
	return out
}

const sampleDatas = "data O a = N | S a; data P a b = P a b; data E = E; "

// samplePlaces bind names in all ways; @ is for a part.
func samplePlaces() []string {
	return []string{
		`\x. @`, `\y. @`, `\f. @`, `(@) (@)`, `{@}`, `(@ : O Int)`,
		`let x = @ in @`, `let y = @ in @`, `let rec x = @ in @`, `let rec f = @ in @`,
		`case @ of N. @ | S x. @ end`, `case @ of P x y. @ end`, `case @ of P y f. @ end`, `case @ of E. @ end`,
	}
}

// filled returns each text at each place of each sample, with leaves at the other
// places; of these, every step-th one.
func filled(texts []string, step int) []string {
	leaves := []string{"?", "1", "x", "?", "f", "N"}
	var out []string
	count := 0
	for _, place := range samplePlaces() {
		pieces := strings.Split(place, "@")
		for at := range len(pieces) - 1 {
			for _, text := range texts {
				count++
				if count%step != 0 {
					continue
				}
				whole := pieces[0]
				for i, piece := range pieces[1:] {
					if i == at {
						whole += text + piece
					} else {
						whole += leaves[(count/step+i)%len(leaves)] + piece
					}
				}
				out = append(out, whole)
			}
		}
	}
	return out
}

// samples returns texts of programs. Some have holes in several bindings, some have
// none at all.
func samples() []string {
	one := filled([]string{"?", "f"}, 1)
	two := filled(one, 7)
	bodies := slices.Concat([]string{"?", "y", "1"}, one, two, filled(two, 23))
	var out []string
	for i, body := range bodies {
		other := bodies[(i*5+2)%len(bodies)]
		switch i % 4 {
		case 0:
			out = append(out, sampleDatas+"let a = "+body+"; let rec f = "+other+"; let x : O Int = "+body+";")
		case 1:
			out = append(out, sampleDatas+"let x = 1; let rec y : a -> a = "+body+"; let f = "+other+";")
		case 2:
			out = append(out, "let rec x = "+other+"; let rec f = "+body+"; "+sampleDatas)
		case 3:
			out = append(out, sampleDatas+"let b = "+body+";")
		}
	}
	return out
}

// fillers returns texts of expressions: those that can take the place of some
// hole, and some for each error of scopes.
func fillers() []string {
	return []string{
		"x", "y", "f", "a", "z", "1", "?", "N", "f ?", "? ? ?", `\x. x y ?`, "(? : Int)", "(x : O Int -> E)", "{x}", "{? {?}}", `let x = ? in ? x`, `let rec g = \x. g y in g`, `case ? of N. x | S y. f y ? end`, `case x of P a b. a b ? end`,
		"U", "(1 : U)", "(x : O)", "(1 : a)", "(U : O)", "case N of S a. 1 | N. 2 end", "case N of N. 1 end", "case U of Q. 1 end", "case N of N. 1 | S. 2 end", "case 1 of P a a. z end", "case 1 of P a b c. U end", `(\q. q) q`,
	}
}

// few returns every step-th element.
func few[T any](l []T, step int) []T {
	var out []T
	for i := 0; i < len(l); i += step {
		out = append(out, l[i])
	}
	return out
}

// wrapped returns e inside of count functions.
func wrapped(count int, e api.Expr) api.Expr {
	for range count {
		e = lam("x", e)
	}
	return e
}

// annotated returns the expression 1 with a type of a depth.
func annotated(depth int) api.Expr {
	t := types.Int()
	for range depth {
		t = types.Arrow(t, types.Int())
	}
	return api.Expr{Kind: api.ExprAnn, Kids: []api.Expr{{Kind: api.ExprInt, Num: 1}}, Type: t}
}

// wide returns an expression of little depth, without free variables and holes,
// whose text has size bytes.
func wide(size int) api.Expr {
	if size <= api.MaxDigits {
		return api.Expr{Kind: api.ExprInt, Num: int(math.Pow10(size - 1))}
	}
	left := (size - len("{} {}")) / 2
	return app(held(wide(left)), held(wide(size-len("{} {}")-left)))
}

// strange returns expressions that are not valid.
func strange() []api.Expr {
	x, nothing := v("x"), api.Expr{}
	var out []api.Expr
	for kind := -1; kind <= 12; kind++ {
		for _, kids := range [][]api.Expr{nil, {}, {x}, {x, nothing}, {hole(), lam("x", hole()), x, x}} {
			for _, arms := range [][]api.Arm{nil, {}, {{}}, {{Pos: -3, Con: "E", Vars: []string{"", "y", ""}, Body: hole()}, {Con: "\xff", Body: x}}, {{Con: "E", Vars: slices.Repeat([]string{"x"}, 300), Body: hole()}}} {
				out = append(out, api.Expr{Kind: kind, Pos: -7, Name: []string{"", "x", "\xff"}[(kind+4)%3], Num: math.MinInt, Kids: kids, Arms: arms, Type: types.Con("->", api.Type{})})
			}
		}
	}
	return append(out, api.Expr{Kind: math.MaxInt, Kids: []api.Expr{hole()}}, api.Expr{Kind: math.MinInt, Arms: []api.Arm{{Vars: []string{"x"}}}})
}

// spare returns a list with capacity left, which is filled with a mark.
func spare[T any](l []T, mark T) []T {
	return append(slices.Clone(l), mark, mark)[:len(l)]
}

// spareExpr returns e with lists that have capacity left, which is filled with
// marks.
func spareExpr(e api.Expr) api.Expr {
	e.Kids, e.Arms = spare(e.Kids, v("mark")), spare(e.Arms, api.Arm{Con: "Mark"})
	for i, kid := range e.Kids {
		e.Kids[i] = spareExpr(kid)
	}
	for i, arm := range e.Arms {
		e.Arms[i].Vars, e.Arms[i].Body = spare(arm.Vars, "mark"), spareExpr(arm.Body)
	}
	return e
}

// spareProgram does the same for a program.
func spareProgram(p api.Program) api.Program {
	p.Datas, p.Binds = spare(p.Datas, api.Data{Name: "Mark"}), spare(p.Binds, api.Bind{Name: "mark"})
	for i, data := range p.Datas {
		p.Datas[i].Constructors = spare(data.Constructors, api.Constructor{Name: "Mark"})
	}
	for i, bind := range p.Binds {
		p.Binds[i].Body = spareExpr(bind.Body)
	}
	return p
}

// whole returns a list with all of its capacity.
func whole[T any](l []T) []T { return l[:cap(l)] }

// opened returns copies of a program's lists and those of its bodies as long as
// their capacity, so that all marks can be compared.
func opened(p api.Program) api.Program {
	p.Datas, p.Binds = slices.Clone(whole(p.Datas)), slices.Clone(whole(p.Binds))
	for i, data := range p.Datas {
		p.Datas[i].Constructors = slices.Clone(whole(data.Constructors))
	}
	for i, bind := range p.Binds {
		p.Binds[i].Body = openedExpr(bind.Body)
	}
	return p
}

func openedExpr(e api.Expr) api.Expr {
	e.Kids, e.Arms = slices.Clone(whole(e.Kids)), slices.Clone(whole(e.Arms))
	for i, kid := range e.Kids {
		e.Kids[i] = openedExpr(kid)
	}
	for i, arm := range e.Arms {
		e.Arms[i].Vars, e.Arms[i].Body = slices.Clone(whole(arm.Vars)), openedExpr(arm.Body)
	}
	return e
}

package show

import (
	"strings"

	"typedholes/api"
	"typedholes/types"
)

// The classes of types and expressions, which decide about parentheses.
const (
	single = 's' // an atom, or a type without arguments
	row    = 'r' // an application, or a TypeCon with arguments that is no function type
	open   = 'o' // any other expression, or a function type
)

// written is a type or an expression with its text. It is the tests' second way
// to find texts: a part is put at a place of a larger one, and its text at the
// place of the larger text.
type written[T any] struct {
	part     T
	text     string
	class    rune
	readable bool // whether the text can be a part of a source text
}

// place is a place in a type or an expression.
type place[T any] struct {
	put   func(T) T
	text  string // with @ for the text of the part
	bare  string // the classes of the parts that have no parentheses there
	class rune   // the class of the whole
}

func (w written[T]) at(p place[T]) written[T] {
	text := w.text
	if !strings.ContainsRune(p.bare, w.class) {
		text = "(" + text + ")"
	}
	return written[T]{p.put(w.part), strings.Replace(p.text, "@", text, 1), p.class, w.readable}
}

// below returns the leaves, and these at all places of all places, up to a depth.
func below[T any](leaves []written[T], places []place[T], depth int) []written[T] {
	out := leaves
	level := leaves
	for range depth {
		var next []written[T]
		for _, x := range level {
			for _, p := range places {
				next = append(next, x.at(p))
			}
		}
		out = append(out, next...)
		level = next
	}
	return out
}

func typeLeaves() []written[api.Type] {
	return []written[api.Type]{
		{name("x"), "x", single, true}, {types.Int(), "Int", single, true}, {types.Con("T"), "T", single, true},
		{types.Var(27), "_b1", single, false}, {bound(2), "c", single, false}, {rigid(-1, 0), "'a", single, false}, {rigid(3, 30), "'e1", single, false},
	}
}

func typePlaces() []place[api.Type] {
	b, c := name("b"), types.Con("C")
	return []place[api.Type]{
		{func(t api.Type) api.Type { return types.Arrow(t, b) }, "@ -> b", "sr", open},
		{func(t api.Type) api.Type { return types.Arrow(c, t) }, "C -> @", "sro", open},
		{func(t api.Type) api.Type { return types.Arrow(types.Arrow(b, c), t) }, "(b -> C) -> @", "sro", open},
		{func(t api.Type) api.Type { return types.Con("L", t) }, "L @", "s", row},
		{func(t api.Type) api.Type { return types.Con("P", t, b) }, "P @ b", "s", row},
		{func(t api.Type) api.Type { return types.Con("P", types.Con("L", b), c, t, types.Arrow(b, b)) }, "P (L b) C @ (b -> b)", "s", row},
	}
}

func typeSamples(depth int) []written[api.Type] { return below(typeLeaves(), typePlaces(), depth) }

func exprLeaves() []written[api.Expr] {
	return []written[api.Expr]{
		{v("x"), "x", single, true}, {con("C"), "C", single, true}, {num(12), "12", single, true}, {hole(), "?", single, true},
	}
}

func exprPlaces() []place[api.Expr] {
	y, z := v("y"), v("z")
	return []place[api.Expr]{
		{func(e api.Expr) api.Expr { return lam("y", e) }, `\y. @`, "sro", open},
		{func(e api.Expr) api.Expr { return app(e, y) }, "@ y", "sr", row},
		{func(e api.Expr) api.Expr { return app(y, e) }, "y @", "s", row},
		{func(e api.Expr) api.Expr { return app(lam("y", z), e) }, `(\y. z) @`, "s", row},
		{func(e api.Expr) api.Expr { return let("y", e, z) }, "let y = @ in z", "sro", open},
		{func(e api.Expr) api.Expr { return let("y", z, e) }, "let y = z in @", "sro", open},
		{func(e api.Expr) api.Expr { return rec("z", e, y) }, "let rec z = @ in y", "sro", open},
		{func(e api.Expr) api.Expr { return rec("z", y, e) }, "let rec z = y in @", "sro", open},
		{func(e api.Expr) api.Expr { return cases(e, arm("A", y)) }, "case @ of A. y end", "sro", open},
		{func(e api.Expr) api.Expr { return cases(y, arm("A", e)) }, "case y of A. @ end", "sro", open},
		{func(e api.Expr) api.Expr { return cases(y, arm("A", e, "a"), arm("B", z)) }, "case y of A a. @ | B. z end", "sro", open},
		{func(e api.Expr) api.Expr { return cases(y, arm("A", z), arm("B", e, "a", "b")) }, "case y of A. z | B a b. @ end", "sro", open},
		{func(e api.Expr) api.Expr { return ann(e, types.Arrow(name("a"), types.Int())) }, "(@ : a -> Int)", "sro", single},
		{held, "{@}", "sro", single},
	}
}

func exprSamples(depth int) []written[api.Expr] { return below(exprLeaves(), exprPlaces(), depth) }

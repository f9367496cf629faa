package names

import (
	"slices"

	"typedholes/api"
	"typedholes/tree"
	"typedholes/types"
)

// pair is a correspondence of two names of bound variables. Lists of pairs are
// stacks: the innermost binding is the last one.
type pair struct{ left, right string }

// Alpha reports whether two expressions are alpha-equal.
func Alpha(a, b api.Expr) bool { return alpha(nil, a, b) }

func alpha(pairs []pair, a, b api.Expr) bool {
	if !sameNode(a, b) || !sameName(pairs, a, b) {
		return false
	}
	others := tree.Children(b)
	for i, child := range tree.Children(a) {
		// The children may write over each other's pairs: each is done when
		// the next one begins.
		if !alpha(push(pairs, boundIn(a, i), boundIn(b, i)), child, others[i]) {
			return false
		}
	}
	return true
}

// push adds the pairs of two lists of names, which have the same length.
func push(pairs []pair, lefts, rights []string) []pair {
	for i, left := range lefts {
		pairs = append(pairs, pair{left, rights[i]})
	}
	return pairs
}

// sameNode reports whether two expressions are alike apart from their names and
// their children.
func sameNode(a, b api.Expr) bool {
	return a.Kind == b.Kind && a.Num == b.Num && types.Equal(a.Type, b.Type) &&
		len(a.Kids) == len(b.Kids) && slices.EqualFunc(a.Arms, b.Arms, sameArms)
}

func sameArms(a, b api.Arm) bool { return a.Con == b.Con && len(a.Vars) == len(b.Vars) }

func sameName(pairs []pair, a, b api.Expr) bool {
	switch a.Kind {
	case api.ExprVar:
		return correspond(pairs, a.Name, b.Name)
	case api.ExprLam, api.ExprLet, api.ExprRec:
		return true
	}
	return a.Name == b.Name
}

// correspond reports whether two variables are bound at the same place, or are
// free and the same.
func correspond(pairs []pair, left, right string) bool {
	for _, p := range slices.Backward(pairs) {
		if p.left == left || p.right == right {
			return p == pair{left, right}
		}
	}
	return left == right
}

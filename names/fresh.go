package names

import (
	"slices"
	"sort"
	"strconv"
	"strings"

	"typedholes/api"
	"typedholes/tree"
)

const freshPrefix = "v"

// supply is the list v1, v2, .. without the names with some numbers, which are
// ascending, each once.
type supply struct{ taken []uint64 }

func supplyWithout(names []string) supply {
	var taken []uint64
	for _, name := range names {
		if number, is := numberOf(name); is {
			taken = append(taken, number)
		}
	}
	slices.Sort(taken)
	return supply{slices.Compact(taken)}
}

// numberOf returns the place of a name in the list v1, v2, .., counted from 1, and
// whether it has one. (Places beyond 64 bits are never reached.)
func numberOf(name string) (uint64, bool) {
	digits, found := strings.CutPrefix(name, freshPrefix)
	number, err := strconv.ParseUint(digits, 10, 64)
	if !found || err != nil || number == 0 || strconv.FormatUint(number, 10) != digits {
		return 0, false
	}
	return number, true
}

// name returns the name with the index n, which is not negative.
func (s supply) name(n int) string {
	skipped := sort.Search(len(s.taken), func(i int) bool {
		left := s.taken[i] - 1 - uint64(i) // so many names before taken[i] are in the list
		return left > uint64(n)
	})
	return freshPrefix + strconv.FormatUint(uint64(n)+1+uint64(skipped), 10)
}

// Fresh returns the n-th name of the list v1, v2, .. without the taken ones.
func Fresh(n int, taken []string) string { return supplyWithout(taken).name(max(n, 0)) }

// Canonical returns the stripped expression that is alpha-equal to e and whose
// binding occurrences are numbered by their nesting, apart from the taken names.
func Canonical(e api.Expr, taken []string) api.Expr {
	s := supplyWithout(slices.Concat(taken, Free(e)))
	return s.canonical(nil, tree.Strip(e))
}

// canonical has a pair of the old and the new name for each binding occurrence
// around e, so that their number is the nesting.
func (s supply) canonical(pairs []pair, e api.Expr) api.Expr {
	children := tree.Children(e)
	for i, child := range children {
		bound := boundIn(e, i)
		children[i] = s.canonical(push(pairs, bound, s.list(len(pairs), len(bound))), child)
	}
	// With gives the result arms of its own, which can be changed.
	e = tree.With(e, children)
	switch e.Kind {
	case api.ExprVar:
		e.Name = newName(pairs, e.Name)
	case api.ExprLam, api.ExprLet, api.ExprRec:
		e.Name = s.name(len(pairs))
	case api.ExprCase:
		for i, arm := range e.Arms {
			e.Arms[i].Vars = s.list(len(pairs), len(arm.Vars))
		}
	}
	return e
}

// list returns the names with the indices from first on.
func (s supply) list(first, count int) []string {
	var names []string
	for i := range count {
		names = append(names, s.name(first+i))
	}
	return names
}

func newName(pairs []pair, name string) string {
	for _, p := range slices.Backward(pairs) {
		if p.left == name {
			return p.right
		}
	}
	return name
}

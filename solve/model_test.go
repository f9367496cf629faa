package solve

import (
	"strings"

	"typedholes/api"
)

// model is the tests' second way to solve a system: each type variable that was found
// to stand for something keeps the words of that, as they were then. Nothing is ever
// replaced, and of two type variables the right one stands for the left one.
type model map[string]string

// walk returns what words are found to be, if they are a type variable.
func (m model) walk(words string) string {
	for m[words] != "" {
		words = m[words]
	}
	return words
}

// unify makes two types equal.
func (m model) unify(a, b string) api.Errno {
	x, y := m.walk(a), m.walk(b)
	switch {
	case x == y:
		return api.OK
	case isVar(y):
		return m.bind(y, x)
	case isVar(x):
		return m.bind(x, y)
	case strings.Fields(x)[0] != strings.Fields(y)[0]:
		return api.ErrMismatch
	}
	right := argsOf(y)
	for i, left := range argsOf(x) {
		if err := m.unify(left, right[i]); err != api.OK {
			return err
		}
	}
	return api.OK
}

// bind lets the type variable v stand for words.
func (m model) bind(v, words string) api.Errno {
	if m.contains(words, v, map[string]bool{}) {
		return api.ErrOccurs
	}
	m[v] = words
	return api.OK
}

// contains reports whether v occurs in what words stand for. It does not look again
// for what was seen.
func (m model) contains(words, v string, seen map[string]bool) bool {
	for word := range strings.FieldsSeq(words) {
		if word == v {
			return true
		}
		if m[word] != "" && !seen[word] {
			seen[word] = true
			if m.contains(m[word], v, seen) {
				return true
			}
		}
	}
	return false
}

// size returns the number of words of what words stand for, which can be inexact far
// beyond all limits. Known are the sizes of type variables.
func (m model) size(words string, known map[string]int) int {
	sum := 0
	for word := range strings.FieldsSeq(words) {
		size := 1
		if m[word] != "" {
			if known[word] == 0 {
				known[word] = m.size(m[word], known)
			}
			size = known[word]
		}
		sum = min(sum+size, 1<<40)
	}
	return sum
}

// isLarge reports whether what words stand for has too many nodes.
func (m model) isLarge(words string) bool {
	return m.size(words, map[string]int{}) > api.MaxType
}

// form returns what words stand for.
func (m model) form(words string) string {
	l := strings.Fields(words)
	for i, word := range l {
		if m[word] != "" {
			l[i] = m.form(m[word])
		}
	}
	return strings.Join(l, " ")
}

// solve solves a system. It returns what has been found, the index and the error.
func solve(system string) (model, int, api.Errno) {
	m := model{}
	vars := varsOf(system)
	sides := sidesOf(system)
	for i := 0; i < len(sides); i += 2 {
		if m.isLarge(sides[i]) || m.isLarge(sides[i+1]) {
			return nil, i / 2, api.ErrLarge
		}
		if err := m.unify(sides[i], sides[i+1]); err != api.OK {
			return nil, i / 2, err
		}
		for _, v := range vars {
			if m.isLarge(v) {
				return nil, i / 2, api.ErrLarge
			}
		}
	}
	return m, len(sides) / 2, api.OK
}

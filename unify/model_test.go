package unify

import (
	"slices"
	"strconv"
	"strings"

	"typedholes/api"
)

// model is the tests' second way: a store of texts. The resolved form of words is
// found by replacing words, its size is the number of words, and its type variables
// are the words that are numbers; pairs are treated by recursion.
type model struct {
	words   []string // what the type variables stand for; - for those that are not bound
	homes   []int
	bases   []bool
	changes []string // in the notation of writeTrail
}

// modelOf returns the model of a store that is written s.
func modelOf(s string) *model {
	m := &model{}
	for slot := range strings.SplitSeq(s, ";") {
		if slot == "" {
			continue
		}
		rest, base := strings.CutSuffix(slot, "!")
		words, home, hasHome := strings.Cut(rest, "@")
		if !hasHome {
			home = "0"
		}
		m.words, m.homes, m.bases = append(m.words, words), append(m.homes, number(home)), append(m.bases, base)
	}
	return m
}

// slot writes a slot.
func (m *model) slot(id int) string {
	out := m.words[id]
	if m.homes[id] != 0 {
		out += "@" + strconv.Itoa(m.homes[id])
	}
	if m.bases[id] {
		out += "!"
	}
	return out
}

// String writes the slots.
func (m *model) String() string {
	var l []string
	for id := range m.words {
		l = append(l, m.slot(id))
	}
	return strings.Join(l, ";")
}

// note remembers that a slot will be changed.
func (m *model) note(id int) {
	m.changes = append(m.changes, strconv.Itoa(id)+": "+m.slot(id))
}

// stands returns what a word stands for, and whether it is a bound variable.
func (m *model) stands(word string) (string, bool) {
	if !isVar(word) || number(word) >= len(m.words) || m.words[number(word)] == "-" {
		return "", false
	}
	return m.words[number(word)], true
}

// free returns the Id of a type variable with a slot that is not bound.
func (m *model) free(words string) (int, bool) {
	if !isVar(words) || number(words) >= len(m.words) || m.words[number(words)] != "-" {
		return 0, false
	}
	return number(words), true
}

func (m *model) walk(words string) string {
	for {
		next, bound := m.stands(words)
		if !bound {
			return words
		}
		words = next
	}
}

// form returns the words of the resolved form.
func (m *model) form(words string) string {
	for {
		l, changed := strings.Fields(words), false
		for i, word := range l {
			if by, bound := m.stands(word); bound {
				l[i], changed = by, true
			}
		}
		if !changed {
			return words
		}
		words = strings.Join(l, " ")
	}
}

// size returns the number of nodes of the resolved form.
func (m *model) size(words string) int { return len(strings.Fields(m.form(words))) }

func (m *model) unify(a, b string) api.Errno {
	if m.size(a) > 200 || m.size(b) > 200 {
		return api.ErrLarge
	}
	a, b = m.walk(a), m.walk(b)
	v, isV := m.free(a)
	w, isW := m.free(b)
	switch {
	case isVar(a) && a == b:
		return api.OK
	case isV && isW && v > w:
		m.join(w, v)
		return api.OK
	case isV && isW:
		m.join(v, w)
		return api.OK
	case isV:
		return m.bind(v, b)
	case isW:
		return m.bind(w, a)
	case strings.Fields(a)[0] != strings.Fields(b)[0]:
		return api.ErrMismatch
	}
	right := partsOf(b)
	for i, part := range partsOf(a) {
		if err := m.unify(part, right[i]); err != api.OK {
			return err
		}
	}
	return api.OK
}

// join binds the type variable high to low.
func (m *model) join(low, high int) {
	m.note(high)
	m.words[high] = strconv.Itoa(low)
	if m.homes[low] > m.homes[high] || m.bases[high] && !m.bases[low] {
		m.note(low)
	}
	m.homes[low] = min(m.homes[low], m.homes[high])
	m.bases[low] = m.bases[low] || m.bases[high]
}

// bind binds the type variable id to words.
func (m *model) bind(id int, words string) api.Errno {
	form := m.form(words)
	if slices.Contains(varsOf(form), id) {
		return api.ErrOccurs
	}
	if m.bases[id] && strings.HasPrefix(words, "-> ") {
		return api.ErrBase
	}
	if slices.ContainsFunc(strings.Fields(form), func(word string) bool { return m.away(word, m.homes[id]) }) {
		return api.ErrEscape
	}
	for _, other := range varsOf(form) {
		if other < len(m.homes) && m.homes[other] > m.homes[id] {
			m.note(other)
			m.homes[other] = m.homes[id]
		}
	}
	m.note(id)
	m.words[id] = words
	return api.OK
}

// away reports whether a word is a rigid constant, or a type variable without a slot,
// with a home greater than home.
func (m *model) away(word string, home int) bool {
	if isVar(word) {
		return number(word) >= len(m.words) && 0 > home
	}
	of, _, _ := strings.Cut(strings.TrimPrefix(word, "r"), ".")
	return word[0] == 'r' && number(of) > home
}

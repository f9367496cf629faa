package readtype

import (
	"strings"
	"testing"

	"typedholes/api"
	"typedholes/types"
)

// The texts below have one letter for each token: a is a lower and T an upper
// name, > the mark -> and = a token that no type contains; ( and ) are these
// marks.
const letters = "aT()>="

// grammar is the chapter's grammar, by which it finds the types and the atoms
// with a text by trying all ways to divide the text. It is the tests' second way
// to read types, and knows no order in which tokens are read.
type grammar struct {
	types, applied, atoms map[string]parsed
}

type parsed struct {
	t  api.Type
	ok bool
}

func newGrammar() grammar {
	return grammar{map[string]parsed{}, map[string]parsed{}, map[string]parsed{}}
}

// remember looks a text up in a table of what is known, and completes it.
func remember(known map[string]parsed, s string, find func() parsed) parsed {
	p, found := known[s]
	if !found {
		p = find()
		known[s] = p
	}
	return p
}

func (g grammar) typ(s string) parsed {
	return remember(g.types, s, func() parsed {
		if p := g.appliedType(s); p.ok {
			return p
		}
		for i := range len(s) {
			if s[i] != '>' {
				continue
			}
			from, to := g.appliedType(s[:i]), g.typ(s[i+1:])
			if from.ok && to.ok {
				return parsed{types.Arrow(from.t, to.t), true}
			}
		}
		return parsed{}
	})
}

func (g grammar) appliedType(s string) parsed {
	return remember(g.applied, s, func() parsed {
		if p := g.atom(s); p.ok {
			return p
		}
		// What comes before the last atom is the name alone, or again a name with
		// atoms.
		for i := 1; i < len(s); i++ {
			head, last := g.appliedType(s[:i]), g.atom(s[i:])
			if s[0] == 'T' && head.ok && last.ok {
				return parsed{types.Con("T", append(head.t.Args[:len(head.t.Args):len(head.t.Args)], last.t)...), true}
			}
		}
		return parsed{}
	})
}

func (g grammar) atom(s string) parsed {
	return remember(g.atoms, s, func() parsed {
		switch {
		case s == "a":
			return parsed{name("a"), true}
		case s == "T":
			return parsed{types.Con("T"), true}
		case len(s) > 2 && s[0] == '(' && s[len(s)-1] == ')':
			return g.typ(s[1 : len(s)-1])
		}
		return parsed{}
	})
}

// begins reports whether a text can be continued to one of a rule. Where any
// continuation belongs to it, so does one of the shortest two: the parentheses
// are closed at once, or after a name.
func begins(rule func(string) parsed, s string) bool {
	open := strings.Count(s, "(") - strings.Count(s, ")")
	if open < 0 {
		return false
	}
	end := strings.Repeat(")", open)
	return rule(s+end).ok || rule(s+"a"+end).ok
}

// expected returns what a function that reads by a rule must return for the
// tokens of a text.
func expected(rule func(string) parsed, s string, l []api.Token, from int) result {
	size := 0
	for size < len(s) && begins(rule, s[:size+1]) {
		size++
	}
	if p := rule(s[:size]); p.ok {
		return result{t: p.t, next: from + size}
	}
	if size < len(s) {
		return refused(l[from+size].Pos)
	}
	if len(l) == 0 {
		return refused(0)
	}
	last := l[len(l)-1]
	return refused(last.Pos + len(last.Text))
}

// tokens returns the tokens of a text, with offsets that leave gaps.
func tokens(s string) []api.Token {
	var l []api.Token
	for i, letter := range s {
		x := map[rune]api.Token{'a': lower("a"), 'T': upper("T"), '(': mark("("), ')': mark(")"), '>': mark("->"), '=': mark("=")}[letter]
		x.Pos = 10*i + 3
		l = append(l, x)
	}
	return l
}

// allTexts calls f for all texts of up to size letters.
func allTexts(size int, f func(string)) {
	level := []string{""}
	for n := 0; ; n++ {
		for _, s := range level {
			f(s)
		}
		if n == size {
			return
		}
		var next []string
		for _, s := range level {
			for i := range len(letters) {
				next = append(next, s+letters[i:i+1])
			}
		}
		level = next
	}
}

// P5.1: all short lists of tokens are read as the grammar says.
func TestGrammar(t *testing.T) {
	g := newGrammar()
	allTexts(7, func(s string) {
		l := tokens(s)
		if got, want := apply(Type, l, 0), expected(g.typ, s, l, 0); !got.is(want) {
			t.Fatalf("Type(%s) = %+v; want %+v", s, got, want)
		}
		if got, want := apply(Atom, l, 0), expected(g.atom, s, l, 0); !got.is(want) {
			t.Fatalf("Atom(%s) = %+v; want %+v", s, got, want)
		}
	})
}

// P5.1 and P5.2: so are all short ends of lists, whatever comes before them.
func TestGrammarInside(t *testing.T) {
	g := newGrammar()
	for _, before := range []string{"a", "T", "(", ")", ">", "=", "T(a>", "((("} {
		allTexts(4, func(s string) {
			l, from := tokens(before+s), len(before)
			if got, want := apply(Type, l, from), expected(g.typ, s, l, from); !got.is(want) {
				t.Fatalf("Type(%s) from %d = %+v; want %+v", before+s, from, got, want)
			}
			if got, want := apply(Atom, l, from), expected(g.atom, s, l, from); !got.is(want) {
				t.Fatalf("Atom(%s) from %d = %+v; want %+v", before+s, from, got, want)
			}
		})
	}
}

// P5.2: the tokens that were read determine the type, and the next one only where
// it ends.
func TestOnlyWhatIsRead(t *testing.T) {
	allTexts(5, func(s string) {
		l := tokens("=)" + s)
		for _, f := range []func([]api.Token, int) (api.Type, int, api.Fault){Type, Atom} {
			whole := apply(f, l, 2)
			if whole.fault != (api.Fault{}) {
				continue
			}
			part := l[:whole.next]
			for _, behind := range []string{"", ")", "=", ")>a", "=>a", ")aT(", "=aT("} {
				other := append(tokens("T("), part[2:]...)
				other = append(other, tokens(behind)...)
				for i := range other {
					other[i].Pos = 500 - i
				}
				if got := apply(f, other, 2); !got.is(whole) {
					t.Fatalf("%s is read as %+v, and before %q as %+v", s, whole, behind, got)
				}
			}
		}
	})
}

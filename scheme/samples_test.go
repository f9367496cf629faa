package scheme

import (
	"math"
	"slices"
	"strconv"
	"strings"

	"typedholes/api"
	"typedholes/types"
)

// The tests write types in prefix notation, in words: a number is a type variable,
// b1 a quantified variable, r-1.2 a rigid constant with its home and Id, another
// lower-case letter a name, and everything else a constructor. A scheme is its
// Count and its type. With that, closing and opening is replacing words, which is
// the tests' second way.

// arity is the number of arguments of a word.
func arity(word string) int {
	switch word {
	case "L":
		return 1
	case "->", "P":
		return 2
	case "Q":
		return 3
	}
	return 0
}

func number(word string) int {
	n, err := strconv.Atoi(word)
	if err != nil {
		panic(word)
	}
	return n
}

// typeOf returns the type with these words.
func typeOf(words string) api.Type {
	t, rest := readType(strings.Fields(words))
	if len(rest) > 0 {
		panic(words)
	}
	return t
}

func readType(words []string) (api.Type, []string) {
	word, rest := words[0], words[1:]
	switch {
	case isVar(word):
		return api.Type{Kind: api.TypeVar, Id: number(word)}, rest
	case isBound(word):
		return bound(number(word[1:])), rest
	case word[0] == 'r':
		home, id, _ := strings.Cut(word[1:], ".")
		return api.Type{Kind: api.TypeRigid, Home: number(home), Id: number(id)}, rest
	case isName(word):
		return api.Type{Kind: api.TypeName, Name: word}, rest
	}
	t := api.Type{Kind: api.TypeCon, Name: word}
	for range arity(word) {
		var arg api.Type
		arg, rest = readType(rest)
		t.Args = append(t.Args, arg)
	}
	return t, rest
}

func isVar(word string) bool { return '0' <= word[0] && word[0] <= '9' }

func isBound(word string) bool { return word[0] == 'b' }

func isName(word string) bool {
	return 'a' <= word[0] && word[0] <= 'z' && !isBound(word) && word[0] != 'r'
}

func bound(id int) api.Type { return api.Type{Kind: api.TypeBound, Id: id} }

// write returns the words of a type. What is not valid is written in a way that
// typeOf never reads.
func write(t api.Type) string {
	word, home := t.Name, t.Home
	switch {
	case t.Kind == api.TypeVar:
		word += strconv.Itoa(t.Id)
	case t.Kind == api.TypeBound:
		word += "b" + strconv.Itoa(t.Id)
	case t.Kind == api.TypeRigid:
		word, home = word+"r"+strconv.Itoa(t.Home)+"."+strconv.Itoa(t.Id), 0
	case t.Kind != api.TypeCon && t.Kind != api.TypeName || t.Id != 0:
		word += "!kind" + strconv.Itoa(t.Kind) + "!id" + strconv.Itoa(t.Id)
	}
	if home != 0 {
		word += "!home" + strconv.Itoa(home)
	}
	if t.Kind == api.TypeCon && len(t.Args) != arity(t.Name) || t.Kind != api.TypeCon && len(t.Args) > 0 {
		word += "!args" + strconv.Itoa(len(t.Args))
	}
	for _, arg := range t.Args {
		word += " " + write(arg)
	}
	return word
}

// writeTypes writes a list of types.
func writeTypes(l []api.Type) string {
	var parts []string
	for _, t := range l {
		parts = append(parts, write(t))
	}
	return strings.Join(parts, "; ")
}

func typesOf(l []string) []api.Type {
	var out []api.Type
	for _, words := range l {
		out = append(out, typeOf(words))
	}
	return out
}

// schemeOf returns the scheme that is written c.
func schemeOf(c string) api.Scheme {
	count, words, _ := strings.Cut(c, " ")
	return api.Scheme{Count: number(count), Type: typeOf(words)}
}

func writeScheme(c api.Scheme) string { return strconv.Itoa(c.Count) + " " + write(c.Type) }

// replaced returns words with each word that by has a replacement for replaced.
func replaced(words string, by func(word string) (string, bool)) string {
	l := strings.Fields(words)
	for i, word := range l {
		if other, is := by(word); is {
			l[i] = other
		}
	}
	return strings.Join(l, " ")
}

// firsts returns the words that satisfy a condition, each once, in order.
func firsts(words string, is func(word string) bool) []string {
	var out []string
	for word := range strings.FieldsSeq(words) {
		if is(word) && !slices.Contains(out, word) {
			out = append(out, word)
		}
	}
	return out
}

// closed closes words: it numbers the variables ids anew.
func closed(words string, ids []int) string {
	quantified := firsts(words, func(word string) bool { return isVar(word) && slices.Contains(ids, number(word)) })
	return strconv.Itoa(len(quantified)) + " " + replaced(words, func(word string) (string, bool) {
		i := slices.Index(quantified, word)
		return "b" + strconv.Itoa(i), i >= 0
	})
}

// opened opens words: it replaces the quantified variables by the words of args.
func opened(words string, args []string) string {
	return replaced(words, func(word string) (string, bool) {
		for i, arg := range args {
			if word == "b"+strconv.Itoa(i) {
				return arg, true
			}
		}
		return "", false
	})
}

// lists returns all lists of a length of some words.
func lists(length int, words []string) [][]string {
	out := [][]string{nil}
	for range length {
		var longer [][]string
		for _, list := range out {
			for _, word := range words {
				longer = append(longer, append(slices.Clone(list), word))
			}
		}
		out = longer
	}
	return out
}

// sampleTypes returns types without quantified variables.
func sampleTypes() []string {
	return []string{
		"0", "1", "2", "3", "Int", "r-1.0", "r0.1", "r1.0", "T",
		"L 0", "L 1", "L Int", "L L 2", "L T", "-> 0 0", "-> 0 1", "-> 1 0", "-> Int 2", "-> Int Int", "-> r0.1 L 0", "-> 0 -> 1 0", "-> 1 -> 0 1",
		"P 0 1", "P 1 1", "P Int Int", "P Int T", "P T 3", "P L 0 -> 1 2", "P L 0 L 0", "P L 1 L 0", "-> -> 0 1 -> L 0 L 1", "-> -> 0 1 -> L 1 L 0", "-> P 0 1 0",
		"Q 2 1 0", "Q 0 0 0", "Q 0 1 0", "Q 0 0 1", "Q 1 0 0", "Q 0 L 0 P 0 0", "Q L 1 1 2", "Q 10 1 100", "L P -> 2 0 3", "L 1000000", "Q r1.0 0 P r0.1 0",
	}
}

// sampleSchemes returns valid schemes.
func sampleSchemes() []string {
	var out []string
	for _, words := range sampleTypes() {
		for _, ids := range [][]int{nil, {0}, {1}, {1, 0}, {0, 2}, {3, 2, 1, 0, 10}} {
			out = append(out, closed(words, ids))
		}
	}
	slices.Sort(out)
	return slices.Compact(out)
}

// idLists returns lists of type variables.
func idLists() [][]int {
	return [][]int{nil, {}, {0}, {1}, {2}, {3}, {0, 1}, {1, 0}, {2, 0}, {0, 1, 2}, {2, 1, 0}, {3, 1, 0, 2}, {1, 1, 0, 1}, {10, 9, 0}, {-1, 100, 1, math.MaxInt}, {1000000, 100, 10, 3, 2, 1, 0}}
}

// strange returns types that are not valid.
func strange() []api.Type {
	full := api.Type{Kind: api.TypeVar, Name: "x", Id: 1, Home: 7, Args: []api.Type{types.Var(0), {}}}
	return []api.Type{
		{}, {Kind: -1}, {Kind: 6, Args: []api.Type{types.Var(0)}}, {Kind: math.MaxInt}, types.Var(-1), types.Var(1000001), types.Var(math.MaxInt), {Kind: api.TypeVar, Home: 1}, full,
		types.Con("->"), types.Con("->", types.Var(0)), types.Con("Int", types.Var(0)), types.Con(""), types.Con("lower"), types.Con("\xff"), {Kind: api.TypeCon, Name: "T", Id: 1},
		{Kind: api.TypeRigid, Home: -2}, {Kind: api.TypeRigid, Id: -1}, {Kind: api.TypeRigid, Name: "r"}, {Kind: api.TypeName}, {Kind: api.TypeName, Name: "X"},
		types.Con("T", full), types.Con("->", full, api.Type{}), types.Con("T", slices.Repeat([]api.Type{types.Int()}, 5)...),
	}
}

// strangeBound returns quantified variables that are not valid.
func strangeBound() []api.Type {
	return []api.Type{
		bound(-1), bound(math.MinInt), bound(1000001), bound(math.MaxInt),
		{Kind: api.TypeBound, Name: "a"}, {Kind: api.TypeBound, Home: 1}, {Kind: api.TypeBound, Args: []api.Type{types.Int()}}, {Kind: api.TypeBound, Args: []api.Type{bound(0)}},
	}
}

// spare returns t with lists of arguments that have capacity left, which is filled
// with a mark.
func spare(t api.Type) api.Type {
	if len(t.Args) == 0 {
		return t
	}
	t.Args = spareTypes(t.Args)
	return t
}

// spareTypes does the same for a list of types.
func spareTypes(l []api.Type) []api.Type {
	out := make([]api.Type, len(l), len(l)+2)
	for i, t := range l {
		out[i] = spare(t)
	}
	out[:cap(out)][len(l)] = typeOf("mark")
	return out
}

// all writes types together with the capacity of their lists.
func all(l []api.Type) string {
	out := strconv.Itoa(len(l))
	for _, t := range l[:cap(l)] {
		out += " (" + write(t) + " " + all(t.Args) + ")"
	}
	return out
}

// deep returns a type of a depth.
func deep(depth int, leaf api.Type) api.Type {
	for i := range depth {
		if i%2 == 0 {
			leaf = types.Arrow(types.Int(), leaf)
		} else {
			leaf = types.Con("L", leaf)
		}
	}
	return leaf
}

// wide returns a type with the leaves from one number to before another one.
func wide(from, to int, leaf func(int) api.Type) api.Type {
	if to-from == 1 {
		return leaf(from)
	}
	middle := (from + to) / 2
	return types.Con("P", wide(from, middle, leaf), wide(middle, to, leaf))
}

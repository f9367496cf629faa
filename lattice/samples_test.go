package lattice

import (
	"math"
	"slices"
	"strconv"
	"strings"

	"typedholes/api"
	"typedholes/types"
)

// The tests write types in prefix notation, in words: a number is a type variable,
// b1 a quantified variable, r-1.2 a rigid constant with its home and Id, another
// lower-case letter a name, and everything else a constructor. Substitutions are
// written 0=L 1;1=Int. With that, applying a substitution is replacing words, and
// the first parts of two types that differ begin at the first words that differ,
// which is the tests' second way.

// arity is the number of arguments of a word.
func arity(word string) int {
	switch word {
	case "L":
		return 1
	case "->", "P":
		return 2
	case "Q":
		return 3
	}
	return 0
}

func number(word string) int {
	n, err := strconv.Atoi(word)
	if err != nil {
		panic(word)
	}
	return n
}

// typeOf returns the type with these words.
func typeOf(words string) api.Type {
	t, rest := readType(strings.Fields(words))
	if len(rest) > 0 {
		panic(words)
	}
	return t
}

func readType(words []string) (api.Type, []string) {
	word, rest := words[0], words[1:]
	switch {
	case isVar(word):
		return api.Type{Kind: api.TypeVar, Id: number(word)}, rest
	case word[0] == 'b':
		return api.Type{Kind: api.TypeBound, Id: number(word[1:])}, rest
	case word[0] == 'r':
		home, id, _ := strings.Cut(word[1:], ".")
		return api.Type{Kind: api.TypeRigid, Home: number(home), Id: number(id)}, rest
	case 'a' <= word[0] && word[0] <= 'z':
		return api.Type{Kind: api.TypeName, Name: word}, rest
	}
	t := api.Type{Kind: api.TypeCon, Name: word}
	for range arity(word) {
		var arg api.Type
		arg, rest = readType(rest)
		t.Args = append(t.Args, arg)
	}
	return t, rest
}

func isVar(word string) bool { return '0' <= word[0] && word[0] <= '9' }

// write returns the words of a type. What is not valid is written in a way that
// typeOf never reads.
func write(t api.Type) string {
	word, home := t.Name, t.Home
	switch {
	case t.Kind == api.TypeVar:
		word += strconv.Itoa(t.Id)
	case t.Kind == api.TypeBound:
		word += "b" + strconv.Itoa(t.Id)
	case t.Kind == api.TypeRigid:
		word, home = word+"r"+strconv.Itoa(t.Home)+"."+strconv.Itoa(t.Id), 0
	case t.Kind != api.TypeCon && t.Kind != api.TypeName || t.Id != 0:
		word += "!kind" + strconv.Itoa(t.Kind) + "!id" + strconv.Itoa(t.Id)
	}
	if home != 0 {
		word += "!home" + strconv.Itoa(home)
	}
	if t.Kind == api.TypeCon && len(t.Args) != arity(t.Name) || t.Kind != api.TypeCon && len(t.Args) > 0 {
		word += "!args" + strconv.Itoa(len(t.Args))
	}
	for _, arg := range t.Args {
		word += " " + write(arg)
	}
	return word
}

// assigns returns the substitution that is written s.
func assigns(s string) []api.Assign {
	var out []api.Assign
	for part := range strings.SplitSeq(s, ";") {
		if part != "" {
			id, words, _ := strings.Cut(part, "=")
			out = append(out, api.Assign{Id: number(id), Type: typeOf(words)})
		}
	}
	return out
}

// writeAll writes a substitution.
func writeAll(s []api.Assign) string {
	var parts []string
	for _, assign := range s {
		parts = append(parts, strconv.Itoa(assign.Id)+"="+write(assign.Type))
	}
	return strings.Join(parts, ";")
}

// given returns the words for a word in a substitution that is written s, and
// whether there are any.
func given(s, word string) (string, bool) {
	_, after, found := strings.Cut(";"+s, ";"+word+"=")
	words, _, _ := strings.Cut(after, ";")
	return words, found
}

// applied replaces words as a substitution that is written s says.
func applied(s, words string) string {
	l := strings.Fields(words)
	for i, word := range l {
		if by, found := given(s, word); found {
			l[i] = by
		}
	}
	return strings.Join(l, " ")
}

// add adds an assignment to a substitution that is written s.
func add(s, id, words string) string { return strings.TrimPrefix(s+";"+id+"="+words, ";") }

// varsOf lists the type variables of words, each once, in order.
func varsOf(words string) []string {
	var out []string
	for word := range strings.FieldsSeq(words) {
		if isVar(word) && !slices.Contains(out, word) {
			out = append(out, word)
		}
	}
	return out
}

// idsOf lists the Ids of the type variables of words.
func idsOf(words string) []int {
	var out []int
	for _, word := range varsOf(words) {
		out = append(out, number(word))
	}
	return out
}

// renamed gives the type variables of words the numbers from 0 on, in order; for
// variants, the results are the same.
func renamed(words string) string {
	s := ""
	for i, word := range varsOf(words) {
		s = add(s, word, strconv.Itoa(i))
	}
	return applied(s, words)
}

// apart gives the type variables of words other numbers, which no sample has.
func apart(words string) string {
	s := ""
	for i, word := range varsOf(words) {
		s = add(s, word, strconv.Itoa(i+500))
	}
	return applied(s, words)
}

// partAt returns the words of the part that begins at a word.
func partAt(words []string, at int) string {
	_, rest := readType(words[at:])
	return strings.Join(words[at:len(words)-len(rest)], " ")
}

// partsOf lists the parts of a type, each once.
func partsOf(words string) []string {
	l := strings.Fields(words)
	var out []string
	for i := range l {
		out = append(out, partAt(l, i))
	}
	slices.Sort(out)
	return slices.Compact(out)
}

// sampleTypes returns types of all kinds.
func sampleTypes() []string {
	return []string{
		"0", "1", "2", "3", "Int", "b0", "b1", "r-1.0", "r0.1", "r1.0", "a", "T",
		"L 0", "L 1", "L Int", "L b0", "L L 2", "L L 0", "L T", "-> 0 0", "-> 0 1", "-> 1 0", "-> Int 2", "-> Int Int", "-> L Int L Int", "-> b0 0", "-> b1 1", "-> r0.1 L 0",
		"P 0 1", "P 1 0", "P 1 1", "P Int Int", "P Int T", "P T 3", "P 0 L 0", "P L 1 1", "P L 0 L 1", "P L Int L L Int", "P L 0 -> 1 2", "P 1 -> 0 L 2", "-> -> 0 1 -> L 0 L 1", "-> 2 -> 2 0", "P a r1.0", "P a r0.1",
		"Q 2 1 0", "Q 0 0 1", "Q Int T Int", "Q L 1 0 0", "Q 0 L 0 P 0 0", "Q 1 2 P 2 1", "Q b0 b1 3", "L P -> 2 0 b0", "L P 1 1", "P 10 100", "L 1000000",
	}
}

// sampleAssigns returns valid substitutions.
func sampleAssigns() []string {
	return []string{
		"", "0=0", "0=1", "0=Int", "0=L 1", "1=0", "1=Int", "1=1;0=0", "0=1;1=0", "1=L 0;0=T", "2=r0.1", "2=P 0 1;1=2", "0=b0;2=Int", "3=a", "5=Int", "7=L 7;0=L Int",
		"1000000=0;0=1000000", "2=2;0=0;1=1;3=3", "0=Int;1=T;2=Int", "10=1;100=0", "0=1;1=2;2=3;3=0;4=Int;5=T", "3=Q 0 1 2;2=L 2;1=P Int T;0=-> 0 0",
	}
}

// strange returns types that are not valid.
func strange() []api.Type {
	full := api.Type{Kind: api.TypeVar, Name: "x", Id: 1, Home: 7, Args: []api.Type{types.Var(0), {}}}
	return []api.Type{
		{}, {Kind: -1}, {Kind: 6, Args: []api.Type{types.Var(0)}}, {Kind: math.MaxInt}, types.Var(-1), types.Var(1000001), types.Var(math.MaxInt), {Kind: api.TypeVar, Home: 1}, full,
		types.Con("->"), types.Con("->", types.Var(0)), types.Con("Int", types.Var(0)), types.Con(""), types.Con("lower"), types.Con("\xff"), {Kind: api.TypeCon, Name: "T", Id: 1},
		{Kind: api.TypeRigid, Home: -2}, {Kind: api.TypeRigid, Id: -1}, {Kind: api.TypeRigid, Name: "r"}, {Kind: api.TypeName}, {Kind: api.TypeName, Name: "X", Args: []api.Type{full}},
		{Kind: api.TypeBound, Id: -1}, {Kind: api.TypeBound, Home: 1}, {Kind: api.TypeBound, Args: []api.Type{types.Var(0)}}, {Kind: api.TypeBound, Args: []api.Type{types.Var(1)}},
		types.Con("T", full), types.Con("->", full, api.Type{}), types.Con("T", slices.Repeat([]api.Type{types.Int()}, 5)...), types.Con("T", types.Var(0), types.Con("T", full, types.Var(2))),
	}
}

// spare returns t with lists of arguments that have capacity left, which is filled
// with a mark.
func spare(t api.Type) api.Type {
	if len(t.Args) == 0 {
		return t
	}
	args := make([]api.Type, len(t.Args), len(t.Args)+2)
	for i, arg := range t.Args {
		args[i] = spare(arg)
	}
	args[:cap(args)][len(args)] = typeOf("mark")
	t.Args = args
	return t
}

// spareAssigns does the same for a substitution.
func spareAssigns(s []api.Assign) []api.Assign {
	out := make([]api.Assign, len(s), len(s)+3)
	for i, assign := range s {
		out[i] = api.Assign{Id: assign.Id, Type: spare(assign.Type)}
	}
	out[:cap(out)][len(s)] = api.Assign{Id: 77, Type: typeOf("mark")}
	return out
}

// all writes a type together with the capacity of its lists.
func all(t api.Type) string {
	out := write(t)
	for _, arg := range t.Args[:cap(t.Args)] {
		out += " (" + all(arg) + ")"
	}
	return out
}

// allAssigns writes a substitution together with the capacity of its lists.
func allAssigns(s []api.Assign) string {
	out := strconv.Itoa(len(s))
	for _, assign := range s[:cap(s)] {
		out += ";" + strconv.Itoa(assign.Id) + "=" + all(assign.Type)
	}
	return out
}

// deep returns a type of a depth.
func deep(depth int, leaf api.Type) api.Type {
	for i := range depth {
		if i%2 == 0 {
			leaf = types.Arrow(types.Int(), leaf)
		} else {
			leaf = types.Con("L", leaf)
		}
	}
	return leaf
}

// wide returns a type with the leaves from one number to before another one.
func wide(from, to int, leaf func(int) api.Type) api.Type {
	if to-from == 1 {
		return leaf(from)
	}
	middle := (from + to) / 2
	return types.Con("P", wide(from, middle, leaf), wide(middle, to, leaf))
}

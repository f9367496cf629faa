package solve

import (
	"math"
	"slices"
	"strconv"
	"strings"

	"typedholes/api"
	"typedholes/types"
)

// The tests write types in prefix notation, in words: a number is a type variable,
// b1 a quantified variable, r-1.2 a rigid constant with its home and Id, another
// lower-case letter a name, and everything else a constructor, with its number of
// arguments behind a slash if it is not the usual one. Substitutions are written
// 0=L 1;1=Int, and systems 0 ~ L 1 | P 0 1 ~ 2.

// arity is the number of arguments of a word.
func arity(word string) int {
	if name, count, is := strings.Cut(word, "/"); is && name != "" {
		return number(count)
	}
	switch word {
	case "L":
		return 1
	case "->", "P":
		return 2
	case "Q":
		return 3
	}
	return 0
}

func number(word string) int {
	n, err := strconv.Atoi(word)
	if err != nil {
		panic(word)
	}
	return n
}

// typeOf returns the type with these words.
func typeOf(words string) api.Type {
	t, rest := readType(strings.Fields(words))
	if len(rest) > 0 {
		panic(words)
	}
	return t
}

func readType(words []string) (api.Type, []string) {
	word, rest := words[0], words[1:]
	switch {
	case isVar(word):
		return api.Type{Kind: api.TypeVar, Id: number(word)}, rest
	case word[0] == 'b':
		return api.Type{Kind: api.TypeBound, Id: number(word[1:])}, rest
	case word[0] == 'r':
		home, id, _ := strings.Cut(word[1:], ".")
		return api.Type{Kind: api.TypeRigid, Home: number(home), Id: number(id)}, rest
	case 'a' <= word[0] && word[0] <= 'z':
		return api.Type{Kind: api.TypeName, Name: word}, rest
	}
	name, _, _ := strings.Cut(word, "/")
	t := api.Type{Kind: api.TypeCon, Name: name}
	for range arity(word) {
		var arg api.Type
		arg, rest = readType(rest)
		t.Args = append(t.Args, arg)
	}
	return t, rest
}

// isVar reports whether words, or a word, are a type variable.
func isVar(words string) bool { return '0' <= words[0] && words[0] <= '9' }

// write returns the words of a type. What is not valid is written in a way that
// typeOf never reads.
func write(t api.Type) string {
	word, home := t.Name, t.Home
	switch {
	case t.Kind == api.TypeVar:
		word += strconv.Itoa(t.Id)
	case t.Kind == api.TypeBound:
		word += "b" + strconv.Itoa(t.Id)
	case t.Kind == api.TypeRigid:
		word, home = word+"r"+strconv.Itoa(t.Home)+"."+strconv.Itoa(t.Id), 0
	case t.Kind != api.TypeCon && t.Kind != api.TypeName || t.Id != 0:
		word += "!kind" + strconv.Itoa(t.Kind) + "!id" + strconv.Itoa(t.Id)
	}
	if home != 0 {
		word += "!home" + strconv.Itoa(home)
	}
	if t.Kind == api.TypeCon && len(t.Args) != arity(t.Name) {
		word += "/" + strconv.Itoa(len(t.Args))
	} else if t.Kind != api.TypeCon && len(t.Args) > 0 {
		word += "!args" + strconv.Itoa(len(t.Args))
	}
	for _, arg := range t.Args {
		word += " " + write(arg)
	}
	return word
}

// assigns returns the substitution that is written s.
func assigns(s string) []api.Assign {
	var out []api.Assign
	for part := range strings.SplitSeq(s, ";") {
		if part != "" {
			id, words, _ := strings.Cut(part, "=")
			out = append(out, api.Assign{Id: number(id), Type: typeOf(words)})
		}
	}
	return out
}

// writeAll writes a substitution.
func writeAll(s []api.Assign) string {
	var parts []string
	for _, assign := range s {
		parts = append(parts, strconv.Itoa(assign.Id)+"="+write(assign.Type))
	}
	return strings.Join(parts, ";")
}

// sidesOf lists the sides of a system, of each equation the left one before the right
// one.
func sidesOf(system string) []string {
	var out []string
	for e := range strings.SplitSeq(system, "|") {
		if strings.TrimSpace(e) != "" {
			left, right, _ := strings.Cut(e, "~")
			out = append(out, strings.TrimSpace(left), strings.TrimSpace(right))
		}
	}
	return out
}

// systemOf writes the system with these sides.
func systemOf(sides []string) string {
	var l []string
	for i := 0; i < len(sides); i += 2 {
		l = append(l, sides[i]+" ~ "+sides[i+1])
	}
	return strings.Join(l, " | ")
}

// equations returns the equations of a system.
func equations(system string) []api.Equation {
	var out []api.Equation
	sides := sidesOf(system)
	for i := 0; i < len(sides); i += 2 {
		out = append(out, api.Equation{Left: typeOf(sides[i]), Right: typeOf(sides[i+1])})
	}
	return out
}

// given returns the words for a word in a substitution that is written s, and
// whether there are any.
func given(s, word string) (string, bool) {
	_, after, found := strings.Cut(";"+s, ";"+word+"=")
	words, _, _ := strings.Cut(after, ";")
	return words, found
}

// applied replaces words as a substitution that is written s says.
func applied(s, words string) string {
	l := strings.Fields(words)
	for i, word := range l {
		if by, found := given(s, word); found {
			l[i] = by
		}
	}
	return strings.Join(l, " ")
}

// add adds an assignment to a substitution that is written s.
func add(s, id, words string) string { return strings.TrimPrefix(s+";"+id+"="+words, ";") }

// varsOf lists the type variables of words, or of a system, each once, in order.
func varsOf(words string) []string {
	var out []string
	for word := range strings.FieldsSeq(words) {
		if isVar(word) && !slices.Contains(out, word) {
			out = append(out, word)
		}
	}
	return out
}

// idsOf lists the Ids of the type variables of words, or of a system.
func idsOf(words string) []int {
	var out []int
	for _, word := range varsOf(words) {
		out = append(out, number(word))
	}
	return out
}

// renamed gives the type variables of words the numbers from 0 on, in order; for
// variants, the results are the same.
func renamed(words string) string {
	s := ""
	for i, word := range varsOf(words) {
		s = add(s, word, strconv.Itoa(i))
	}
	return applied(s, words)
}

// endOf returns where the part ends that begins at a place of a list of words.
func endOf(l []string, at int) int {
	end := at + 1
	for range arity(l[at]) {
		end = endOf(l, end)
	}
	return end
}

// argsOf lists the words of the arguments of a type.
func argsOf(words string) []string {
	l := strings.Fields(words)
	var args []string
	at := 1
	for range arity(l[0]) {
		end := endOf(l, at)
		args = append(args, strings.Join(l[at:end], " "))
		at = end
	}
	return args
}

// repeated returns words that begin with a word so many times: L L L Int.
func repeated(word string, count int, last string) string {
	return strings.Repeat(word+" ", count) + last
}

// sampleTypes returns types of all kinds.
func sampleTypes() []string {
	return []string{
		"0", "1", "2", "1000000", "Int", "T", "b0", "b1", "r-1.0", "r0.1", "r0.0", "a", "c",
		"L 0", "L 1", "L Int", "L r0.1", "L L 2", "-> 0 0", "-> 1 Int", "P 0 1", "P 2 L 0", "P/1 0", "L/0", "Q 2 1 0",
	}
}

// sampleEquations returns equations that, put together, have and do not have solutions.
func sampleEquations() []string {
	return []string{
		"0 ~ 0", "0 ~ 1", "1 ~ 2", "2 ~ 0", "3 ~ 1", "0 ~ Int", "Int ~ 1", "2 ~ T", "L 0 ~ 1", "0 ~ L 2", "2 ~ L 1", "3 ~ L 0", "L 3 ~ L 2", "Int ~ Int", "Int ~ T",
		"0 ~ -> 1 2", "-> 0 1 ~ -> 2 2", "-> 0 1 ~ P 0 1", "P 0 1 ~ P 1 0", "P 0 L 1 ~ P 2 0", "P 0 1 ~ P L 1 2", "P Int 0 ~ P 1 1", "1 ~ P 0 3", "P 2 3 ~ P P 0 0 P 1 1",
		"b0 ~ 0", "0 ~ b1", "1 ~ r0.1", "L r0.1 ~ L 2", "a ~ 3", "1 ~ P/1 0", "1 ~ P 0 0", "Q 0 1 2 ~ Q 1 2 Int", "0 ~ 1000000", "L 1000000 ~ 2",
	}
}

// sampleAssigns returns valid substitutions.
func sampleAssigns() []string {
	return []string{
		"", "0=0", "0=1", "0=Int", "0=L 1", "1=0", "1=Int", "1=0;2=0", "1=0;2=0;3=0", "0=1;2=1", "0=2;1=2", "0=Int;1=Int;2=Int", "0=Int;1=Int;2=Int;3=Int", "0=Int;1=L Int;2=T", "0=L 2", "1=L 0;2=L 0", "1=L 0;3=L 0", "0=P Int T;1=P T Int",
		"0=1;1=0", "1=L 0;0=T", "2=r0.1", "1=r0.1;0=b0", "2=P 0 1;1=2", "3=a;0=3", "5=Int", "7=L 7;0=L Int", "1000000=0", "0=1000000;2=L 1000000", "2=2;0=0;1=1;3=3", "0=-> 1 2", "0=-> Int Int;1=Int;2=Int", "0=9;1=9;2=9;3=9", "0=L 9;1=L 9;2=L 9",
	}
}

// strange returns types that are not valid.
func strange() []api.Type {
	full := api.Type{Kind: api.TypeVar, Name: "x", Id: 1, Home: 7, Args: []api.Type{types.Var(0), {}}}
	return []api.Type{
		{}, {Kind: -1}, {Kind: 6, Args: []api.Type{types.Var(0)}}, {Kind: math.MaxInt}, types.Var(-1), types.Var(1000001), types.Var(math.MinInt), types.Var(math.MaxInt), {Kind: api.TypeVar, Home: 1}, full,
		{Kind: api.TypeVar, Id: 0, Args: []api.Type{types.Var(0), types.Var(1)}}, {Kind: api.TypeVar, Id: 2, Args: []api.Type{types.Con("L", types.Var(2))}},
		types.Con("->"), types.Con("->", types.Var(0)), types.Con("Int", types.Var(0)), types.Con(""), types.Con("lower"), types.Con("\xff"), {Kind: api.TypeCon, Name: "T", Id: 1},
		{Kind: api.TypeRigid, Home: -2}, {Kind: api.TypeRigid, Id: -1}, {Kind: api.TypeRigid, Name: "r"}, {Kind: api.TypeName}, {Kind: api.TypeName, Name: "X", Args: []api.Type{full}},
		{Kind: api.TypeBound, Id: -1}, {Kind: api.TypeBound, Home: 1}, {Kind: api.TypeBound, Args: []api.Type{types.Var(0)}}, {Kind: api.TypeBound, Args: []api.Type{types.Var(1)}},
		types.Con("T", full), types.Con("->", full, api.Type{}), types.Con("T", slices.Repeat([]api.Type{types.Int()}, 5)...), types.Con("T", types.Var(0), types.Con("T", full, types.Var(2))),
	}
}

// spareType returns t with lists of arguments that have capacity left, which is
// filled with a mark.
func spareType(t api.Type) api.Type {
	if len(t.Args) == 0 {
		return t
	}
	args := make([]api.Type, len(t.Args), len(t.Args)+2)
	for i, arg := range t.Args {
		args[i] = spareType(arg)
	}
	args[:cap(args)][len(args)] = typeOf("mark")
	t.Args = args
	return t
}

// spareAssigns does the same for a substitution.
func spareAssigns(s []api.Assign) []api.Assign {
	out := make([]api.Assign, len(s), len(s)+3)
	for i, assign := range s {
		out[i] = api.Assign{Id: assign.Id, Type: spareType(assign.Type)}
	}
	out[:cap(out)][len(s)] = api.Assign{Id: 77, Type: typeOf("mark")}
	return out
}

// spareEquations does the same for a list of equations.
func spareEquations(l []api.Equation) []api.Equation {
	out := make([]api.Equation, len(l), len(l)+3)
	for i, e := range l {
		out[i] = api.Equation{Left: spareType(e.Left), Right: spareType(e.Right)}
	}
	out[:cap(out)][len(l)] = api.Equation{Left: typeOf("mark"), Right: typeOf("77")}
	return out
}

// allType writes a type together with the capacity of its lists.
func allType(t api.Type) string {
	out := write(t)
	for _, arg := range t.Args[:cap(t.Args)] {
		out += " (" + allType(arg) + ")"
	}
	return out
}

// allAssigns writes a substitution together with the capacity of its lists.
func allAssigns(s []api.Assign) string {
	out := strconv.Itoa(len(s))
	for _, assign := range s[:cap(s)] {
		out += ";" + strconv.Itoa(assign.Id) + "=" + allType(assign.Type)
	}
	return out
}

// allEquations writes a list of equations together with the capacity of its lists.
func allEquations(l []api.Equation) string {
	out := strconv.Itoa(len(l))
	for _, e := range l[:cap(l)] {
		out += " | " + allType(e.Left) + " ~ " + allType(e.Right)
	}
	return out
}

// chance is a fixed sequence of numbers that looks like chance.
type chance uint32

func (c *chance) below(n int) int {
	*c = *c*1664525 + 1013904223
	return int(*c>>8) % n
}

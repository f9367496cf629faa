package subst

import (
	"slices"
	"strconv"
	"strings"

	"typedholes/api"
	"typedholes/types"
)

// The tests write types in prefix notation, in words: a number is a type variable,
// b1 a quantified variable, r-1.2 a rigid constant with its home and Id, another
// lower-case letter a name, and everything else a constructor. Substitutions are
// written 0=L 1;1=Int. With that, applying a substitution is replacing words,
// which is the tests' second way.

// arity is the number of arguments of a word.
func arity(word string) int {
	switch word {
	case "L":
		return 1
	case "->", "P":
		return 2
	case "Q":
		return 3
	}
	return 0
}

func number(word string) int {
	n, err := strconv.Atoi(word)
	if err != nil {
		panic(word)
	}
	return n
}

// typeOf returns the type with these words.
func typeOf(words string) api.Type {
	t, rest := readType(strings.Fields(words))
	if len(rest) > 0 {
		panic(words)
	}
	return t
}

func readType(words []string) (api.Type, []string) {
	word, rest := words[0], words[1:]
	switch word[0] {
	case '0', '1', '2', '3', '4', '5', '6', '7', '8', '9':
		return api.Type{Kind: api.TypeVar, Id: number(word)}, rest
	case 'b':
		return api.Type{Kind: api.TypeBound, Id: number(word[1:])}, rest
	case 'r':
		home, id, _ := strings.Cut(word[1:], ".")
		return api.Type{Kind: api.TypeRigid, Home: number(home), Id: number(id)}, rest
	}
	if 'a' <= word[0] && word[0] <= 'z' {
		return api.Type{Kind: api.TypeName, Name: word}, rest
	}
	t := api.Type{Kind: api.TypeCon, Name: word}
	for range arity(word) {
		var arg api.Type
		arg, rest = readType(rest)
		t.Args = append(t.Args, arg)
	}
	return t, rest
}

// write returns the words of a type. What is not valid is written in a way that
// typeOf never reads.
func write(t api.Type) string {
	word := t.Name
	switch t.Kind {
	case api.TypeVar:
		word += strconv.Itoa(t.Id)
	case api.TypeBound:
		word += "b" + strconv.Itoa(t.Id)
	case api.TypeRigid:
		return word + "r" + strconv.Itoa(t.Home) + "." + strconv.Itoa(t.Id)
	case api.TypeCon, api.TypeName:
		if t.Id != 0 {
			word += "!" + strconv.Itoa(t.Id)
		}
	default:
		word += "!kind" + strconv.Itoa(t.Kind)
	}
	if t.Home != 0 {
		word += "!home" + strconv.Itoa(t.Home)
	}
	if t.Kind == api.TypeCon && len(t.Args) != arity(t.Name) || t.Kind != api.TypeCon && len(t.Args) > 0 {
		word += "!args" + strconv.Itoa(len(t.Args))
	}
	for _, arg := range t.Args {
		word += " " + write(arg)
	}
	return word
}

// assigns returns the substitution that is written s.
func assigns(s string) []api.Assign {
	var out []api.Assign
	for part := range strings.SplitSeq(s, ";") {
		if part != "" {
			id, words, _ := strings.Cut(part, "=")
			out = append(out, api.Assign{Id: number(id), Type: typeOf(words)})
		}
	}
	return out
}

// writeAll writes a substitution.
func writeAll(s []api.Assign) string {
	var parts []string
	for _, assign := range s {
		parts = append(parts, strconv.Itoa(assign.Id)+"="+write(assign.Type))
	}
	return strings.Join(parts, ";")
}

// given returns the words for a word in a substitution that is written s, and
// whether there are any.
func given(s, word string) (string, bool) {
	_, after, found := strings.Cut(";"+s, ";"+word+"=")
	words, _, _ := strings.Cut(after, ";")
	return words, found
}

// applied replaces words as a substitution that is written s says.
func applied(s, words string) string {
	l := strings.Fields(words)
	for i, word := range l {
		if by, found := given(s, word); found {
			l[i] = by
		}
	}
	return strings.Join(l, " ")
}

// sampleTypes returns types of all kinds.
func sampleTypes() []string {
	return []string{
		"0", "1", "2", "3", "Int", "b0", "b1", "r-1.0", "r0.1", "r1.0", "a", "T",
		"L 0", "L 1", "L Int", "L b0", "L L 2", "L T", "-> 0 0", "-> 0 1", "-> 1 0", "-> Int 2", "-> b0 0", "-> b1 1", "-> r0.1 L 0",
		"P 0 1", "P 1 1", "P Int Int", "P T 3", "P L 0 -> 1 2", "-> -> 0 1 -> L 0 L 1", "P a r1.0", "Q 2 1 0", "Q 0 L 0 P 0 0", "Q b0 b1 3", "L P -> 2 0 b0",
	}
}

// sampleAssigns returns valid substitutions: all of the first ones with up to two
// elements for three variables, and some longer ones.
func sampleAssigns() []string {
	words := []string{"0", "1", "2", "Int", "L 1", "-> 2 0", "b0", "P r0.1 a"}
	out := []string{""}
	for a := range 3 {
		for i, word := range words {
			first := strconv.Itoa(a) + "=" + word
			out = append(out, first)
			for b := range 3 {
				if b != a {
					out = append(out, first+";"+strconv.Itoa(b)+"="+words[(i*3+a+2*b)%len(words)])
				}
			}
		}
	}
	return append(out,
		"0=1;1=2;2=0", "0=0;1=1;2=2", "2=L 0;0=L 1;1=L 2", "3=P 0 1;1=P 0 0", "0=P 1 2;1=Int;2=T;3=L 0", "1=Q 0 2 3;0=2;2=Int",
		"0=P 3 3;1=-> 3 L 3", "3=-> -> 0 1 2;2=L L 1;0=b1", "10=0;0=10;1=L 10", "100=1;1=100;10=11", "1000000=0;0=P 1000000 1",
	)
}

// spareType returns t with lists of arguments that have capacity left, which is
// filled with a mark.
func spareType(t api.Type) api.Type {
	if len(t.Args) == 0 {
		return t
	}
	args := make([]api.Type, len(t.Args), len(t.Args)+2)
	for i, arg := range t.Args {
		args[i] = spareType(arg)
	}
	args[:cap(args)][len(args)] = typeOf("mark")
	t.Args = args
	return t
}

// spareAssigns does the same for a substitution.
func spareAssigns(s []api.Assign) []api.Assign {
	out := make([]api.Assign, len(s), len(s)+2)
	for i, assign := range s {
		out[i] = api.Assign{Id: assign.Id, Type: spareType(assign.Type)}
	}
	out[:cap(out)][len(s)] = api.Assign{Id: 77, Type: typeOf("mark")}
	return out
}

// allOfType writes a type together with the capacity of its lists.
func allOfType(t api.Type) string {
	out := write(t)
	for _, arg := range t.Args[:cap(t.Args)] {
		out += " (" + allOfType(arg) + ")"
	}
	return out
}

// allOf writes a substitution together with the capacity of its lists.
func allOf(s []api.Assign) string {
	out := strconv.Itoa(len(s))
	for _, assign := range s[:cap(s)] {
		out += ";" + strconv.Itoa(assign.Id) + "=" + allOfType(assign.Type)
	}
	return out
}

// deep returns a type of a depth.
func deep(depth int, leaf api.Type) api.Type {
	for i := range depth {
		if i%2 == 0 {
			leaf = types.Arrow(types.Int(), leaf)
		} else {
			leaf = types.Con("L", leaf)
		}
	}
	return leaf
}

// few returns every n-th element of a list.
func few(l []string, n int) []string {
	var out []string
	for chunk := range slices.Chunk(l, n) {
		out = append(out, chunk[0])
	}
	return out
}

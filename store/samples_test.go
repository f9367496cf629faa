package store

import (
	"math"
	"slices"
	"strconv"
	"strings"

	"typedholes/api"
	"typedholes/types"
)

// The tests write types in prefix notation, in words: a number is a type variable,
// b1 a quantified variable, r-1.2 a rigid constant with its home and Id, another
// lower-case letter a name, and everything else a constructor. The slots of a store
// are written L 1;-;Int, where - is a slot that is not bound. With that, the resolved
// form is found by replacing words, its size is the number of words, and its type
// variables are the words that are numbers, which is the tests' second way.

// arity is the number of arguments of a word.
func arity(word string) int {
	switch word {
	case "L":
		return 1
	case "->", "P":
		return 2
	case "Q":
		return 3
	}
	return 0
}

func number(word string) int {
	n, err := strconv.Atoi(word)
	if err != nil {
		panic(word)
	}
	return n
}

// typeOf returns the type with these words.
func typeOf(words string) api.Type {
	t, rest := readType(strings.Fields(words))
	if len(rest) > 0 {
		panic(words)
	}
	return t
}

func readType(words []string) (api.Type, []string) {
	word, rest := words[0], words[1:]
	switch {
	case isVar(word):
		return api.Type{Kind: api.TypeVar, Id: number(word)}, rest
	case word[0] == 'b':
		return api.Type{Kind: api.TypeBound, Id: number(word[1:])}, rest
	case word[0] == 'r':
		home, id, _ := strings.Cut(word[1:], ".")
		return api.Type{Kind: api.TypeRigid, Home: number(home), Id: number(id)}, rest
	case 'a' <= word[0] && word[0] <= 'z':
		return api.Type{Kind: api.TypeName, Name: word}, rest
	}
	t := api.Type{Kind: api.TypeCon, Name: word}
	for range arity(word) {
		var arg api.Type
		arg, rest = readType(rest)
		t.Args = append(t.Args, arg)
	}
	return t, rest
}

func isVar(word string) bool { return '0' <= word[0] && word[0] <= '9' }

// write returns the words of a type. What is not valid is written in a way that
// typeOf never reads.
func write(t api.Type) string {
	word, home := t.Name, t.Home
	switch {
	case t.Kind == api.TypeVar:
		word += strconv.Itoa(t.Id)
	case t.Kind == api.TypeBound:
		word += "b" + strconv.Itoa(t.Id)
	case t.Kind == api.TypeRigid:
		word, home = word+"r"+strconv.Itoa(t.Home)+"."+strconv.Itoa(t.Id), 0
	case t.Kind != api.TypeCon && t.Kind != api.TypeName || t.Id != 0:
		word += "!kind" + strconv.Itoa(t.Kind) + "!id" + strconv.Itoa(t.Id)
	}
	if home != 0 {
		word += "!home" + strconv.Itoa(home)
	}
	if t.Kind == api.TypeCon && len(t.Args) != arity(t.Name) || t.Kind != api.TypeCon && len(t.Args) > 0 {
		word += "!args" + strconv.Itoa(len(t.Args))
	}
	for _, arg := range t.Args {
		word += " " + write(arg)
	}
	return word
}

// slotOf returns the slot for words, or for -, with this home and base.
func slotOf(words string, home int, base bool) api.Slot {
	if words == "-" {
		return api.Slot{Home: home, Base: base}
	}
	return api.Slot{Bound: true, Type: typeOf(words), Home: home, Base: base}
}

// storeOf returns the store with slots that are written s, without a trail. Homes and
// bases differ, since they play no part in what types stand for.
func storeOf(s string) api.Store {
	var out api.Store
	for i, words := range strings.Split(s, ";") {
		if words != "" {
			out.Slots = append(out.Slots, slotOf(words, i-1, i%2 == 0))
		}
	}
	return out
}

// writeSlot writes all fields of a slot.
func writeSlot(s api.Slot) string {
	return strconv.FormatBool(s.Bound) + " " + write(s.Type) + " home " + strconv.Itoa(s.Home) + " " + strconv.FormatBool(s.Base)
}

// writeStore writes all that a store has.
func writeStore(s api.Store) string {
	var out strings.Builder
	for _, slot := range s.Slots {
		out.WriteString(writeSlot(slot) + "\n")
	}
	for _, change := range s.Trail {
		out.WriteString(writeChange(change) + "\n")
	}
	return out.String()
}

func writeChange(c api.Change) string {
	return "change " + strconv.Itoa(c.Id) + " " + strconv.FormatBool(c.New) + " " + writeSlot(c.Old)
}

// given returns what a word stands for in slots that are written one after another,
// and whether it is a bound variable.
func given(slots []string, word string) (string, bool) {
	if !isVar(word) || number(word) >= len(slots) || slots[number(word)] == "-" {
		return "", false
	}
	return slots[number(word)], true
}

// written returns the words of the resolved form; there is none if after so many
// rounds as there are slots a bound variable is left.
func written(s, words string) (string, bool) {
	slots := strings.Split(s, ";")
	for range len(slots) + 1 {
		l, changed := strings.Fields(words), false
		for i, word := range l {
			if by, bound := given(slots, word); bound {
				l[i], changed = by, true
			}
		}
		if !changed {
			return words, true
		}
		words = strings.Join(l, " ")
	}
	return "", false
}

// varsOf lists the Ids of the type variables of words, each once, in order.
func varsOf(words string) []int {
	var out []int
	for word := range strings.FieldsSeq(words) {
		if isVar(word) && !slices.Contains(out, number(word)) {
			out = append(out, number(word))
		}
	}
	return out
}

// sampleTypes returns types of all kinds.
func sampleTypes() []string {
	return []string{
		"0", "1", "2", "3", "4", "1000000", "Int", "b0", "b1", "r-1.0", "r0.1", "r1.0", "a", "T",
		"L 0", "L 2", "L Int", "L b0", "L L 3", "-> 0 0", "-> 0 1", "-> 2 1", "-> Int 3", "P 3 0", "P 7 1", "P 0 P 1 P 2 3", "P P P 3 2 1 0", "Q 2 1 0", "Q 3 Int 3", "Q L 1 b1 P 0 r0.1", "-> L a -> 9 3",
	}
}

// sampleStores returns slots: all lists of up to three of them from a small set, and
// some others. Not all of them are valid.
func sampleStores() []string {
	parts := []string{"-", "Int", "0", "1", "2", "L 0", "L 1", "-> 1 2", "P 2 2", "Q 0 b0 1", "3"}
	out := []string{"-;-;-;-", "1;2;3;-", "-;0;1;2", "3;3;3;Int", "-;P 0 0;P 1 1;P 2 2", "P 1 1;P 2 2;P 3 3;-", "L 3;-;0;T", "Q 1 2 3;L 2;L 3;L 4;-", "r1.0;a;b3;Int", "2;0;-;1;Q 3 2 1", "Q 3 3 1;P 3 2;-;-", "3;0;1;2", "-;2;L 3;1", "-;-;-;P 3 3"}
	level := []string{""}
	for range 3 {
		var next []string
		for _, s := range level {
			for _, part := range parts {
				next = append(next, strings.TrimPrefix(s+";"+part, ";"))
			}
		}
		out = append(out, next...)
		level = next
	}
	return out
}

// strangeTypes returns types that are not valid.
func strangeTypes() []api.Type {
	full := api.Type{Kind: api.TypeVar, Name: "x", Id: 1, Home: 7, Args: []api.Type{types.Var(0), {}}}
	return []api.Type{
		{}, {Kind: -1}, {Kind: 6, Args: []api.Type{types.Var(0)}}, {Kind: math.MaxInt}, types.Var(-1), types.Var(1000001), types.Var(math.MinInt), types.Var(math.MaxInt), {Kind: api.TypeVar, Home: 1}, full,
		{Kind: api.TypeVar, Id: 99, Args: []api.Type{types.Var(0), types.Var(1)}}, {Kind: api.TypeVar, Id: -9, Args: []api.Type{types.Con("L", types.Var(2))}},
		types.Con("->"), types.Con("->", types.Var(0)), types.Con("Int", types.Var(0)), types.Con(""), types.Con("lower"), types.Con("\xff"), {Kind: api.TypeCon, Name: "T", Id: 1},
		{Kind: api.TypeRigid, Home: -2}, {Kind: api.TypeRigid, Id: -1}, {Kind: api.TypeRigid, Name: "r"}, {Kind: api.TypeName}, {Kind: api.TypeName, Name: "X", Args: []api.Type{full}},
		{Kind: api.TypeBound, Id: -1}, {Kind: api.TypeBound, Home: 1}, {Kind: api.TypeBound, Args: []api.Type{types.Var(0)}},
		types.Con("T", full), types.Con("->", full, api.Type{}), types.Con("T", slices.Repeat([]api.Type{types.Int()}, 5)...), types.Con("T", types.Var(0), types.Con("T", full, types.Var(2))),
	}
}

// spareType returns t with lists of arguments that have capacity left, which is
// filled with a mark.
func spareType(t api.Type) api.Type {
	if len(t.Args) == 0 {
		return t
	}
	args := make([]api.Type, len(t.Args), len(t.Args)+2)
	for i, arg := range t.Args {
		args[i] = spareType(arg)
	}
	args[:cap(args)][len(args)] = typeOf("mark")
	t.Args = args
	return t
}

// spare does the same for a store.
func spare(s api.Store) api.Store {
	out := api.Store{Slots: make([]api.Slot, len(s.Slots), len(s.Slots)+3), Trail: make([]api.Change, len(s.Trail), len(s.Trail)+3)}
	for i, slot := range s.Slots {
		out.Slots[i] = slot
		out.Slots[i].Type = spareType(slot.Type)
	}
	for i, change := range s.Trail {
		out.Trail[i] = change
		out.Trail[i].Old.Type = spareType(change.Old.Type)
	}
	for i := len(s.Slots); i < cap(out.Slots); i++ {
		out.Slots[:cap(out.Slots)][i] = slotOf("mark", 77, true)
	}
	for i := len(s.Trail); i < cap(out.Trail); i++ {
		out.Trail[:cap(out.Trail)][i] = api.Change{Id: 88, Old: slotOf("mark", 77, true)}
	}
	return out
}

// allType writes a type together with the capacity of its lists.
func allType(t api.Type) string {
	out := write(t)
	for _, arg := range t.Args[:cap(t.Args)] {
		out += " (" + allType(arg) + ")"
	}
	return out
}

// all writes a store together with the capacity of its lists.
func all(s api.Store) string {
	var out strings.Builder
	out.WriteString(strconv.Itoa(len(s.Slots)) + " " + strconv.Itoa(len(s.Trail)) + "\n")
	for _, slot := range s.Slots[:cap(s.Slots)] {
		out.WriteString(writeSlot(slot) + " " + allType(slot.Type) + "\n")
	}
	for _, change := range s.Trail[:cap(s.Trail)] {
		out.WriteString(writeChange(change) + " " + allType(change.Old.Type) + "\n")
	}
	return out.String()
}

// chain returns a store of a length in which each type variable but the first one
// stands for what wrap makes of the one before.
func chain(length int, wrap func(api.Type) api.Type) api.Store {
	s := api.Store{Slots: make([]api.Slot, length)}
	for i := 1; i < length; i++ {
		s.Slots[i] = api.Slot{Bound: true, Type: wrap(types.Var(i - 1))}
	}
	return s
}

func same(t api.Type) api.Type { return t }

func listOf(t api.Type) api.Type { return types.Con("L", t) }

func pairOf(t api.Type) api.Type { return types.Con("P", t, t) }

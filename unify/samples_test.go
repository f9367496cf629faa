package unify

import (
	"math"
	"slices"
	"strconv"
	"strings"

	"typedholes/api"
	"typedholes/types"
)

// The tests write types in prefix notation, in words: a number is a type variable,
// b1 a quantified variable, r-1.2 a rigid constant with its home and Id, another
// lower-case letter a name, and everything else a constructor, with its number of
// arguments behind a slash if it is not the usual one. The slots of a store are
// written L 1@3!;-@2 where - is a slot that is not bound, @ stands before a home that
// is not 0, and ! marks a base.

// arity is the number of arguments of a word.
func arity(word string) int {
	if name, count, is := strings.Cut(word, "/"); is && name != "" {
		return number(count)
	}
	switch word {
	case "L":
		return 1
	case "->", "P":
		return 2
	case "Q":
		return 3
	}
	return 0
}

func number(word string) int {
	n, err := strconv.Atoi(word)
	if err != nil {
		panic(word)
	}
	return n
}

// typeOf returns the type with these words.
func typeOf(words string) api.Type {
	t, rest := readType(strings.Fields(words))
	if len(rest) > 0 {
		panic(words)
	}
	return t
}

func readType(words []string) (api.Type, []string) {
	word, rest := words[0], words[1:]
	switch {
	case isVar(word):
		return api.Type{Kind: api.TypeVar, Id: number(word)}, rest
	case word[0] == 'b':
		return api.Type{Kind: api.TypeBound, Id: number(word[1:])}, rest
	case word[0] == 'r':
		home, id, _ := strings.Cut(word[1:], ".")
		return api.Type{Kind: api.TypeRigid, Home: number(home), Id: number(id)}, rest
	case 'a' <= word[0] && word[0] <= 'z':
		return api.Type{Kind: api.TypeName, Name: word}, rest
	}
	name, _, _ := strings.Cut(word, "/")
	t := api.Type{Kind: api.TypeCon, Name: name}
	for range arity(word) {
		var arg api.Type
		arg, rest = readType(rest)
		t.Args = append(t.Args, arg)
	}
	return t, rest
}

func isVar(word string) bool { return '0' <= word[0] && word[0] <= '9' }

// write returns the words of a type. What is not valid is written in a way that
// typeOf never reads.
func write(t api.Type) string {
	word, home := t.Name, t.Home
	switch {
	case t.Kind == api.TypeVar:
		word += strconv.Itoa(t.Id)
	case t.Kind == api.TypeBound:
		word += "b" + strconv.Itoa(t.Id)
	case t.Kind == api.TypeRigid:
		word, home = word+"r"+strconv.Itoa(t.Home)+"."+strconv.Itoa(t.Id), 0
	case t.Kind != api.TypeCon && t.Kind != api.TypeName || t.Id != 0:
		word += "!kind" + strconv.Itoa(t.Kind) + "!id" + strconv.Itoa(t.Id)
	}
	if home != 0 {
		word += "!home" + strconv.Itoa(home)
	}
	if t.Kind == api.TypeCon && len(t.Args) != arity(t.Name) {
		word += "/" + strconv.Itoa(len(t.Args))
	} else if t.Kind != api.TypeCon && len(t.Args) > 0 {
		word += "!args" + strconv.Itoa(len(t.Args))
	}
	for _, arg := range t.Args {
		word += " " + write(arg)
	}
	return word
}

// slotOf returns the slot that is written s.
func slotOf(s string) api.Slot {
	rest, base := strings.CutSuffix(s, "!")
	words, home, hasHome := strings.Cut(rest, "@")
	slot := api.Slot{Base: base}
	if hasHome {
		slot.Home = number(home)
	}
	if words != "-" {
		slot.Bound, slot.Type = true, typeOf(words)
	}
	return slot
}

// writeSlot writes all fields of a slot.
func writeSlot(slot api.Slot) string {
	words := "-"
	if slot.Bound {
		words = write(slot.Type)
	} else if !types.Equal(slot.Type, api.Type{}) {
		words = "-!type" + write(slot.Type)
	}
	if slot.Home != 0 {
		words += "@" + strconv.Itoa(slot.Home)
	}
	if slot.Base {
		words += "!"
	}
	return words
}

// storeOf returns the store with slots that are written s, without a trail.
func storeOf(s string) api.Store {
	var out api.Store
	for slot := range strings.SplitSeq(s, ";") {
		if slot != "" {
			out.Slots = append(out.Slots, slotOf(slot))
		}
	}
	return out
}

// writeSlots writes the slots of a store.
func writeSlots(s api.Store) string {
	var l []string
	for _, slot := range s.Slots {
		l = append(l, writeSlot(slot))
	}
	return strings.Join(l, ";")
}

// writeTrail writes the trail of a store: the Ids with the old slots.
func writeTrail(s api.Store) string {
	var l []string
	for _, change := range s.Trail {
		old := writeSlot(change.Old)
		if change.New {
			old = "new" + strings.TrimPrefix(old, "-")
		}
		l = append(l, strconv.Itoa(change.Id)+": "+old)
	}
	return strings.Join(l, ", ")
}

// writeStore writes all that a store has.
func writeStore(s api.Store) string { return writeSlots(s) + " | " + writeTrail(s) }

// partsOf lists the words of the arguments of a type.
func partsOf(words string) []string {
	l := strings.Fields(words)
	var parts []string
	at := 1
	for range arity(l[0]) {
		end := endOf(l, at)
		parts = append(parts, strings.Join(l[at:end], " "))
		at = end
	}
	return parts
}

// endOf returns where the part ends that begins at a place of a list of words.
func endOf(l []string, at int) int {
	end := at + 1
	for range arity(l[at]) {
		end = endOf(l, end)
	}
	return end
}

// varsOf lists the Ids of the type variables of words, each once, in order.
func varsOf(words string) []int {
	var out []int
	for word := range strings.FieldsSeq(words) {
		if isVar(word) && !slices.Contains(out, number(word)) {
			out = append(out, number(word))
		}
	}
	return out
}

// renamed returns words with the type variables numbered in the order in which they
// occur first.
func renamed(words string) string {
	vars := varsOf(words)
	l := strings.Fields(words)
	for i, word := range l {
		if isVar(word) {
			l[i] = strconv.Itoa(slices.Index(vars, number(word)))
		}
	}
	return strings.Join(l, " ")
}

// sampleTypes returns types of all kinds.
func sampleTypes() []string {
	return []string{
		"0", "1", "2", "3", "1000000", "Int", "b0", "b1", "r-1.0", "r0.1", "r1.0", "r2.0", "a", "T",
		"L 0", "L 2", "L Int", "L r2.0", "L L 1", "-> 0 0", "-> 2 1", "-> Int 7", "P 2 0", "P 0 P 1 2", "P P 3 2 1", "Q 2 1 0", "Q L 1 b1 P 0 r1.0", "P/1 0", "L/0",
	}
}

// sampleStores returns the slots of valid stores.
func sampleStores() []string {
	return []string{
		"", "-", "-!", "-;-;-", "-@1;-@2!;-@3", "-@3;-@2;-@1!", "-@2!;-!;-@5", "-@-1;-@1;-@-1", "-@1000000;-@999999;-@4!",
		"1@2;-@1;-@4!", "-@1;0@3;1@2!", "L 1@4;-@2!;-@1", "-> 1 2@5;-@1;-@2!", "P 1 1;L 2@1;-@3", "-@2;P 0 2@9;-@1", "Int;-@1!;-@2", "r1.0@1;-;-@1",
		"1;2;-@1!", "-@2!;-> 0 2@1;-@7", "L r2.0@2;-@2;-@1", "-@1;P 2 0@1;-@3!", "-@1;-@2;-@3;-@4", "P 1 2;L 3;L 3;-@2!", "3@1;0;-@2;-@3", "-@1;L 0;L 1;L 2", "-@-5;-@-4!;-@-3;-@-2",
	}
}

// repeated returns words that begin with a word so many times: L L L Int.
func repeated(word string, count int, last string) string {
	return strings.Repeat(word+" ", count) + last
}

// strangeTypes returns types that are not valid.
func strangeTypes() []api.Type {
	full := api.Type{Kind: api.TypeVar, Name: "x", Id: 1, Home: 7, Args: []api.Type{types.Var(0), {}}}
	return []api.Type{
		{}, {Kind: -1}, {Kind: 6, Args: []api.Type{types.Var(0)}}, {Kind: math.MaxInt}, types.Var(-1), types.Var(1000001), types.Var(math.MinInt), types.Var(math.MaxInt), {Kind: api.TypeVar, Home: 1}, full,
		{Kind: api.TypeVar, Id: 99, Args: []api.Type{types.Var(0), types.Var(1)}}, {Kind: api.TypeVar, Id: 2, Args: []api.Type{types.Con("L", types.Var(2))}},
		types.Con("->"), types.Con("->", types.Var(0)), types.Con("Int", types.Var(0)), types.Con(""), types.Con("lower"), types.Con("\xff"), {Kind: api.TypeCon, Name: "T", Id: 1},
		{Kind: api.TypeRigid, Home: -2}, {Kind: api.TypeRigid, Id: -1}, {Kind: api.TypeRigid, Name: "r"}, {Kind: api.TypeName}, {Kind: api.TypeName, Name: "X", Args: []api.Type{full}},
		{Kind: api.TypeBound, Id: -1}, {Kind: api.TypeBound, Home: 1}, {Kind: api.TypeBound, Args: []api.Type{types.Var(0)}},
		types.Con("T", full), types.Con("->", full, api.Type{}), types.Con("T", slices.Repeat([]api.Type{types.Int()}, 5)...), types.Con("T", types.Var(0), types.Con("T", full, types.Var(2))),
	}
}

// spareType returns t with lists of arguments that have capacity left, which is
// filled with a mark.
func spareType(t api.Type) api.Type {
	if len(t.Args) == 0 {
		return t
	}
	args := make([]api.Type, len(t.Args), len(t.Args)+2)
	for i, arg := range t.Args {
		args[i] = spareType(arg)
	}
	args[:cap(args)][len(args)] = typeOf("mark")
	t.Args = args
	return t
}

// spare does the same for a store.
func spare(s api.Store) api.Store {
	out := api.Store{Slots: make([]api.Slot, len(s.Slots), len(s.Slots)+3), Trail: make([]api.Change, len(s.Trail), len(s.Trail)+3)}
	for i, slot := range s.Slots {
		out.Slots[i] = slot
		out.Slots[i].Type = spareType(slot.Type)
	}
	for i, change := range s.Trail {
		out.Trail[i] = change
		out.Trail[i].Old.Type = spareType(change.Old.Type)
	}
	for i := len(s.Slots); i < cap(out.Slots); i++ {
		out.Slots[:cap(out.Slots)][i] = slotOf("mark@77!")
	}
	for i := len(s.Trail); i < cap(out.Trail); i++ {
		out.Trail[:cap(out.Trail)][i] = api.Change{Id: 88, Old: slotOf("mark@77!")}
	}
	return out
}

// allType writes a type together with the capacity of its lists.
func allType(t api.Type) string {
	out := write(t)
	for _, arg := range t.Args[:cap(t.Args)] {
		out += " (" + allType(arg) + ")"
	}
	return out
}

// all writes a store together with the capacity of its lists.
func all(s api.Store) string {
	var out strings.Builder
	out.WriteString(strconv.Itoa(len(s.Slots)) + " " + strconv.Itoa(len(s.Trail)) + "\n")
	for _, slot := range s.Slots[:cap(s.Slots)] {
		out.WriteString(writeSlot(slot) + " " + allType(slot.Type) + "\n")
	}
	for _, change := range s.Trail[:cap(s.Trail)] {
		out.WriteString(strconv.Itoa(change.Id) + " " + strconv.FormatBool(change.New) + " " + writeSlot(change.Old) + " " + allType(change.Old.Type) + "\n")
	}
	return out.String()
}

// chain returns a store of a length in which each type variable but the first one
// stands for what wrap makes of the one before.
func chain(length int, wrap func(api.Type) api.Type) api.Store {
	s := api.Store{Slots: make([]api.Slot, length)}
	for i := 1; i < length; i++ {
		s.Slots[i] = api.Slot{Bound: true, Type: wrap(types.Var(i - 1))}
	}
	return s
}

func same(t api.Type) api.Type { return t }

func listOf(t api.Type) api.Type { return types.Con("L", t) }

func pairOf(t api.Type) api.Type { return types.Con("P", t, t) }

// chance is a fixed sequence of numbers that looks like chance.
type chance uint32

func (c *chance) below(n int) int {
	*c = *c*1664525 + 1013904223
	return int(*c>>8) % n
}

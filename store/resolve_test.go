package store

import (
	"math"
	"slices"
	"strings"
	"testing"

	"typedholes/api"
	"typedholes/types"
)

// P16.2: Walk, Size, Resolve and Vars of a few types.
func TestFew(t *testing.T) {
	for _, c := range []struct {
		slots, words string
		walk, form   string
		vars         []int
	}{
		{"", "Int", "Int", "Int", nil},
		{"", "0", "0", "0", []int{0}}, // without a slot
		{"-", "0", "0", "0", []int{0}},
		{"-", "1", "1", "1", []int{1}},
		{"Int", "0", "Int", "Int", nil},
		{"1;-", "0", "1", "1", []int{1}},
		{"1;2;L 3;-", "0", "L 3", "L 3", []int{3}},
		{"1;2;3;-", "P 0 3", "P 0 3", "P 3 3", []int{3}},
		{"L 1;P 2 2;-", "0", "L 1", "L P 2 2", []int{2}},
		{"L 1;P 2 2;-", "L 0", "L 0", "L L P 2 2", []int{2}},
		{"-;-;P 1 0", "Q 2 5 1", "Q 2 5 1", "Q P 1 0 5 1", []int{1, 0, 5}},
		{"-;-;-", "Q 2 0 1", "Q 2 0 1", "Q 2 0 1", []int{2, 0, 1}},
		{"b0;r0.1;a", "Q 0 1 2", "Q 0 1 2", "Q b0 r0.1 a", nil},
		{"Int", "b0", "b0", "b0", nil}, {"Int", "r0.0", "r0.0", "r0.0", nil}, // the Ids of type variables alone count
		{"Int", "P b0 r-1.0", "P b0 r-1.0", "P b0 r-1.0", nil},
		{"-;0;0", "P 2 1", "P 2 1", "P 0 0", []int{0}},
	} {
		s, x := storeOf(c.slots), typeOf(c.words)
		if got := Walk(s, x); write(got) != c.walk {
			t.Errorf("Walk(%s, %s) = %s; want %s", c.slots, c.words, write(got), c.walk)
		}
		if got, is := Resolve(s, x); !is || write(got) != c.form {
			t.Errorf("Resolve(%s, %s) = %s, %v; want %s", c.slots, c.words, write(got), is, c.form)
		}
		if got := Vars(s, x); !slices.Equal(got, c.vars) {
			t.Errorf("Vars(%s, %s) = %v; want %v", c.slots, c.words, got, c.vars)
		}
		if got := Size(s, x, 100); got != len(strings.Fields(c.form)) {
			t.Errorf("Size(%s, %s, 100) = %d; want that of %s", c.slots, c.words, got, c.form)
		}
	}
}

// walked returns what the words stand for when bound variables are followed.
func walked(s, words string) string {
	for {
		next, bound := given(strings.Split(s, ";"), words)
		if !bound {
			return words
		}
		words = next
	}
}

// checkResolved compares the functions with the words of the resolved form.
func checkResolved(t *testing.T, words, of, form string) {
	s, x := storeOf(words), typeOf(of)
	if got := Walk(s, x); isVar(of) && write(got) != walked(words, of) || !isVar(of) && write(got) != of {
		t.Fatalf("Walk(%s, %s) = %s", words, of, write(got))
	}
	got, is := Resolve(s, x)
	if !is || write(got) != form {
		t.Fatalf("Resolve(%s, %s) = %s, %v; want %s", words, of, write(got), is, form)
	}
	if again, is := Resolve(s, got); !is || write(again) != form {
		t.Fatalf("Resolve(%s, %s), resolved again, = %s", words, of, write(again))
	}
	if got := Vars(s, x); !slices.Equal(got, varsOf(form)) {
		t.Fatalf("Vars(%s, %s) = %v; want %v", words, of, got, varsOf(form))
	}
	size := len(strings.Fields(form))
	for _, most := range []int{math.MinInt, -1, 0, 1, 2, 3, size - 2, size - 1, size, size + 1, 500, math.MaxInt - 1, math.MaxInt} {
		if got, want := Size(s, x, most), sizeUpTo(size, most); got != want {
			t.Fatalf("Size(%s, %s, %d) = %d; want %d", words, of, most, got, want)
		}
	}
}

// sizeUpTo returns what Size returns for a size.
func sizeUpTo(size, most int) int {
	if most < 0 {
		return 1
	}
	if size <= most {
		return size
	}
	return most + 1
}

// P16.2, P16.4: the functions agree with the resolved form, for many stores.
func TestAll(t *testing.T) {
	count := 0
	for _, words := range sampleStores() {
		if !Valid(storeOf(words)) {
			continue
		}
		for _, of := range sampleTypes() {
			form, is := written(words, of)
			if !is {
				t.Fatalf("the store %s is valid, but %s has no resolved form", words, of)
			}
			checkResolved(t, words, of, form)
			count++
		}
	}
	if count < 5000 {
		t.Errorf("only %d", count)
	}
}

// P16.2: Vars of several types, and of none.
func TestVarsOfList(t *testing.T) {
	s := storeOf("-;P 3 0;L 1;-")
	for _, c := range []struct {
		words string
		want  []int
	}{
		{"", nil}, {"0", []int{0}}, {"0;3", []int{0, 3}}, {"3;0", []int{3, 0}}, {"1;0", []int{3, 0}}, {"0;1", []int{0, 3}}, {"2;1", []int{3, 0}},
		{"Int;T", nil}, {"9;1;9;0", []int{9, 3, 0}}, {"Int;L 7;P 0 2;8", []int{7, 0, 3, 8}}, {"P 0 8;Q 3 8 9", []int{0, 8, 3, 9}}, {"L 1;3;0;1", []int{3, 0}},
	} {
		var l []api.Type
		for words := range strings.SplitSeq(c.words, ";") {
			if words != "" {
				l = append(l, typeOf(words))
			}
		}
		if got := Vars(s, l...); !slices.Equal(got, c.want) {
			t.Errorf("Vars of %s = %v; want %v", c.words, got, c.want)
		}
	}
}

// withNodes returns a type with so many nodes.
func withNodes(nodes int) api.Type {
	x := types.Int()
	if nodes%2 == 0 {
		x, nodes = listOf(x), nodes-1
	}
	for range nodes / 2 {
		x = types.Arrow(types.Int(), x)
	}
	return x
}

// P16.2: a resolved form is written out up to 4000 nodes.
func TestResolveLimit(t *testing.T) {
	for _, nodes := range []int{1, 2, 3998, 3999, 4000, 4001, 4002, 8001} {
		x := withNodes(nodes)
		s := chain(1, same)
		s.Slots = append(s.Slots, api.Slot{Bound: true, Type: x}, api.Slot{Bound: true, Type: types.Var(1)})
		for _, of := range []api.Type{x, types.Var(1), types.Var(2)} {
			got, is := Resolve(s, of)
			if want := nodes <= 4000; is != want || want && !types.Equal(got, x) || !want && !types.Equal(got, api.Type{}) {
				t.Errorf("Resolve of %d nodes is %v with %d nodes", nodes, is, types.Nodes(got))
			}
		}
		// Half of the nodes come from each of two occurrences of one variable.
		_, is := Resolve(s, types.Con("P", types.Var(1), types.Var(2)))
		if want := 2*nodes+1 <= 4000; is != want {
			t.Errorf("Resolve of twice %d nodes is %v", nodes, is)
		}
	}
}

// P16.2: types that double with each variable.
func TestDoubling(t *testing.T) {
	s := chain(100, pairOf)
	for i := range 62 {
		size := 1<<(i+1) - 1
		for _, most := range []int{0, 1, 199, 200, 3999, 4000, 1 << 40, size - 1, size, size + 1, math.MaxInt - 1, math.MaxInt} {
			if got, want := Size(s, types.Var(i), most), sizeUpTo(size, most); most >= 0 && got != want {
				t.Fatalf("Size of the variable %d up to %d = %d; want %d", i, most, got, want)
			}
		}
		x, is := Resolve(s, types.Var(i))
		if is != (size <= 4000) || is && types.Nodes(x) != size || !is && !types.Equal(x, api.Type{}) {
			t.Fatalf("Resolve of the variable %d is %v", i, is)
		}
	}
	for i := 62; i < 100; i++ {
		if got := Size(s, types.Var(i), 1<<50); got != 1<<50+1 {
			t.Fatalf("Size of the variable %d = %d", i, got)
		}
		if got := Size(s, types.Var(i), math.MaxInt); got != math.MaxInt {
			t.Fatalf("Size of the variable %d, without a limit, = %d", i, got)
		}
	}
	if got := Vars(s, types.Var(99), types.Var(100), types.Var(98)); !slices.Equal(got, []int{0, 100}) {
		t.Errorf("Vars = %v", got)
	}
	if !Valid(s) {
		t.Error("the store is not valid")
	}
}

// P0.1: long ways from variable to variable, and types that are much deeper than
// those in the slots.
func TestLong(t *testing.T) {
	const length = 200000
	s := chain(length, same)
	last := types.Var(length - 1)
	if got := Walk(s, last); write(got) != "0" {
		t.Errorf("Walk = %s", write(got))
	}
	if got, is := Resolve(s, pairOf(last)); !is || write(got) != "P 0 0" {
		t.Errorf("Resolve = %s, %v", write(got), is)
	}
	if got := Size(s, pairOf(last), 5); got != 3 {
		t.Errorf("Size = %d", got)
	}
	if got := Vars(s, last, last); !slices.Equal(got, []int{0}) || !Valid(s) {
		t.Errorf("Vars = %v", got)
	}
	s = chain(length, listOf)
	if got := Size(s, last, math.MaxInt); got != length {
		t.Errorf("Size = %d", got)
	}
	if got := Vars(s, last); !slices.Equal(got, []int{0}) || !Valid(s) {
		t.Errorf("Vars = %v", got)
	}
	if _, is := Resolve(s, last); is {
		t.Error("Resolve of a large type")
	}
}

// P16.2: Size does not visit many more nodes than it may count: otherwise, this
// would take hours.
func TestSizeStops(t *testing.T) {
	const length = 200000
	deep, doubled := chain(length, listOf), chain(length, pairOf)
	for i := range length {
		if Size(deep, types.Var(length-1), 20) != 21 || Size(doubled, types.Var(length-1), i%20) != i%20+1 {
			t.Fatal("Size")
		}
	}
}

// P16.2: the same for numbers for which Size remembers what it has counted, which
// takes memory.
func TestSizeStopsAboveLimit(t *testing.T) {
	const most, length = 5000, 200000
	for _, wrap := range []func(api.Type) api.Type{listOf, pairOf} {
		s := chain(length, wrap)
		all := testing.AllocsPerRun(1, func() { Vars(s, types.Var(length-1)) })
		few := testing.AllocsPerRun(1, func() {
			if Size(s, types.Var(length-1), most) != most+1 {
				t.Error("Size")
			}
		})
		if few > all/4 {
			t.Errorf("Size up to %d makes %v allocations; visiting all makes %v", most, few, all)
		}
	}
}

package scheme

import (
	"slices"
	"strconv"
	"strings"
	"testing"

	"typedholes/api"
	"typedholes/types"
)

// P14.1: the valid schemes.
func TestValid(t *testing.T) {
	for _, c := range []struct {
		c    string
		want bool
	}{
		{"0 Int", true}, {"0 3", true}, {"0 r-1.0", true}, {"0 -> 1 r0.2", true}, {"0 x", false}, {"0 L x", false}, {"1 -> b0 x", false}, {"1 -> x b0", false},
		{"1 b0", true}, {"0 b0", false}, {"2 b0", false}, {"-1 b0", false}, {"1 b1", false}, {"2 b1", false}, {"1 Int", false}, {"-1 Int", false}, {"1 0", false},
		{"2 -> b0 b1", true}, {"2 -> b1 b0", false}, {"1 -> b0 b1", false}, {"3 -> b0 b1", false}, {"1 -> b0 b0", true}, {"2 -> b0 b0", false}, {"2 -> b0 b2", false}, {"3 -> b0 b2", false},
		{"2 P L b0 -> b1 b0", true}, {"2 P L b1 -> b0 b1", false}, {"3 Q P b0 b1 b0 b2", true}, {"3 Q P b0 b2 b0 b1", false}, {"3 Q b0 P b1 b0 -> b1 b2", true}, {"2 Q b0 P b1 b0 -> b1 b2", false},
		{"1 Q 0 L b0 r1.1", true}, {"1 L 1000000", false}, {"1 P b0 1000000", true}, {"1 P b0 1000001", false}, {"1 P b0 r-2.0", false}, {"1 P b0 let", false},
	} {
		if got := Valid(schemeOf(c.c)); got != c.want {
			t.Errorf("Valid(%s) is %v", c.c, got)
		}
	}
}

// P14.1: Valid of all types with three parts of these, with all counts around the
// right one.
func TestValidOfAll(t *testing.T) {
	valid := 0
	for _, parts := range lists(3, []string{"b0", "b1", "b2", "0", "r0.0", "x", "L b0", "-> b1 b0", "P Int b2"}) {
		words := "Q " + strings.Join(parts, " ")
		order := firsts(words, isBound)
		want := len(firsts(words, isName)) == 0
		for i, word := range order {
			want = want && word == "b"+strconv.Itoa(i)
		}
		for count := -1; count <= 4; count++ {
			c := strconv.Itoa(count) + " " + words
			got := Valid(schemeOf(c))
			if got != (want && count == len(order)) {
				t.Fatalf("Valid(%s) is %v", c, got)
			}
			if got {
				valid++
			}
		}
	}
	if valid < 50 {
		t.Errorf("only %d valid schemes", valid)
	}
}

// P14.1: schemes with parts that are not valid.
func TestValidParts(t *testing.T) {
	for _, x := range append(strange(), strangeBound()...) {
		for count := -1; count <= 3; count++ {
			for _, around := range []api.Type{x, types.Con("L", x), types.Arrow(bound(0), x), types.Arrow(x, bound(0)), types.Con("Q", bound(0), x, bound(1))} {
				if c := (api.Scheme{Count: count, Type: around}); Valid(c) {
					t.Errorf("%s is valid", writeScheme(c))
				}
			}
		}
	}
}

// P14.1: Count can be as large as the Ids of TypeBound allow.
func TestValidLarge(t *testing.T) {
	for _, count := range []int{1000001, 1000002} {
		x := wide(0, count, bound)
		if got := Valid(api.Scheme{Count: count, Type: x}); got != (count == 1000001) {
			t.Errorf("with %d quantified variables, Valid is %v", count, got)
		}
		if Valid(api.Scheme{Count: count - 1, Type: x}) {
			t.Errorf("with %d quantified variables, a lower Count is valid", count)
		}
	}
}

// P14.1: Mono has the type, and quantifies nothing.
func TestMono(t *testing.T) {
	for _, words := range append(sampleTypes(), "x", "b0", "-> b1 b0") {
		if got := writeScheme(Mono(typeOf(words))); got != "0 "+words {
			t.Errorf("Mono(%s) = %s", words, got)
		}
	}
}

// P14.1: Close of a few types.
func TestClose(t *testing.T) {
	for _, c := range []struct {
		words string
		ids   []int
		want  string
	}{
		{"-> 7 3", []int{3}, "1 -> 7 b0"}, // the chapter's example
		{"-> 7 3", []int{3, 7}, "2 -> b0 b1"},
		{"-> 7 3", []int{7, 3}, "2 -> b0 b1"},
		{"-> 3 7", []int{7, 3}, "2 -> b0 b1"},
		{"-> 7 3", []int{7}, "1 -> b0 3"},
		{"-> 7 3", nil, "0 -> 7 3"},
		{"-> 7 3", []int{}, "0 -> 7 3"},
		{"-> 7 3", []int{5, 37, 73}, "0 -> 7 3"},
		{"-> 7 3", []int{5, 3, 3, 5, 3}, "1 -> 7 b0"},
		{"-> 7 7", []int{9, 7}, "1 -> b0 b0"},
		{"0", []int{0}, "1 b0"},
		{"0", []int{-1, 1}, "0 0"},
		{"1", []int{1, 0}, "1 b0"},
		{"Int", []int{0}, "0 Int"},
		{"P r0.0 0", []int{0}, "1 P r0.0 b0"},
		{"Q P 4 2 L 4 -> 0 2", []int{0, 2, 4}, "3 Q P b0 b1 L b0 -> b2 b1"},
		{"Q P 4 2 L 4 -> 0 2", []int{2, 0}, "2 Q P 4 b0 L 4 -> b1 b0"},
		{"Q P 4 2 L 4 -> 0 2", []int{0}, "1 Q P 4 2 L 4 -> b0 2"},
		{"-> 1000000 0", []int{0, 1000000}, "2 -> b0 b1"},
	} {
		if got := writeScheme(Close(typeOf(c.words), c.ids)); got != c.want {
			t.Errorf("Close(%s, %v) = %s; want %s", c.words, c.ids, got, c.want)
		}
	}
}

// P14.1: Close agrees with the replacement of words, its result is valid, and the
// variables that it quantifies open it again.
func TestCloseInWords(t *testing.T) {
	for _, words := range sampleTypes() {
		for _, ids := range idLists() {
			got := Close(typeOf(words), ids)
			if want := closed(words, ids); writeScheme(got) != want {
				t.Fatalf("Close(%s, %v) = %s; want %s", words, ids, writeScheme(got), want)
			}
			if !Valid(got) {
				t.Fatalf("Close(%s, %v) = %s is not valid", words, ids, writeScheme(got))
			}
			quantified := firsts(words, func(word string) bool { return isVar(word) && slices.Contains(ids, number(word)) })
			if again, is := Open(got, typesOf(quantified)); !is || write(again) != words {
				t.Fatalf("Close(%s, %v) opens to %s, %v", words, ids, write(again), is)
			}
		}
	}
}

// P14.2: Open of a few schemes; no is written where there is none.
func TestOpen(t *testing.T) {
	for _, c := range []struct {
		c    string
		args []string
		want string
	}{
		{"0 Int", nil, "Int"},
		{"0 Int", []string{"Int"}, "no"},
		{"1 b0", nil, "no"},
		{"1 b0", []string{"T"}, "T"},
		{"1 b0", []string{"T", "T"}, "no"},
		{"-1 Int", nil, "no"},
		{"-1 Int", []string{"T"}, "no"},
		{"2 -> b0 b1", []string{"0", "Int"}, "-> 0 Int"},
		{"2 -> b0 b1", []string{"b1", "b0"}, "-> b1 b0"}, // all at once
		{"2 -> b0 b1", []string{"b1"}, "no"},
		{"2 -> b0 b1", []string{"0", "1", "2"}, "no"},
		{"1 Q 0 b0 L b0", []string{"P 0 b0"}, "Q 0 P 0 b0 L P 0 b0"},
		{"1 Q r0.0 b0 0", []string{"r1.1"}, "Q r0.0 r1.1 0"},
		{"1 Int", []string{"T"}, "Int"}, // from here on, the schemes are not valid
		{"1 Int", nil, "no"},
		{"1 -> b1 b0", []string{"T"}, "-> b1 T"},
		{"0 b0", nil, "b0"},
		{"2 -> b1 b0", []string{"T", "Int"}, "-> Int T"},
	} {
		got, is := Open(schemeOf(c.c), typesOf(c.args))
		if !is && !types.Equal(got, api.Type{}) {
			t.Errorf("Open(%s, %v) = %s, beside false", c.c, c.args, write(got))
		}
		if is != (c.want != "no") || is && write(got) != c.want {
			t.Errorf("Open(%s, %v) = %s, %v; want %s", c.c, c.args, write(got), is, c.want)
		}
	}
}

// P14.2: Open agrees with the replacement of words, for as many args as there are
// quantified variables.
func TestOpenInWords(t *testing.T) {
	for _, c := range sampleSchemes() {
		count, words, _ := strings.Cut(c, " ")
		for length := range 5 {
			for _, args := range lists(length, []string{"0", "Int", "-> b1 L b0"}) {
				got, is := Open(schemeOf(c), typesOf(args))
				if is != (length == number(count)) {
					t.Fatalf("Open(%s, %v) is %v", c, args, is)
				}
				if want := opened(words, args); is && write(got) != want {
					t.Fatalf("Open(%s, %v) = %s; want %s", c, args, write(got), want)
				}
			}
		}
	}
}

// P14.1: Free of a few lists of schemes.
func TestFree(t *testing.T) {
	for _, c := range []struct {
		l    []string
		want []int
	}{
		{nil, nil},
		{[]string{"0 Int"}, nil},
		{[]string{"2 -> b0 b1"}, nil},
		{[]string{"0 r0.5"}, nil},
		{[]string{"0 7"}, []int{7}},
		{[]string{"1 -> 7 b0"}, []int{7}},
		{[]string{"1 -> b7 7"}, []int{7}},
		{[]string{"0 -> 7 3"}, []int{7, 3}},
		{[]string{"0 -> 3 7"}, []int{3, 7}},
		{[]string{"0 3", "0 7", "0 3"}, []int{3, 7}},
		{[]string{"0 7", "1 b0", "0 3"}, []int{7, 3}},
		{[]string{"0 P 1 5", "0 Q L 0 1 P 9 5", "0 -> 9 1000000"}, []int{1, 5, 0, 9, 1000000}},
	} {
		var l []api.Scheme
		for _, words := range c.l {
			l = append(l, schemeOf(words))
		}
		if got := Free(l...); !slices.Equal(got, c.want) {
			t.Errorf("Free of %q = %v; want %v", c.l, got, c.want)
		}
	}
}

// P14.1: Free agrees with the words of the schemes.
func TestFreeInWords(t *testing.T) {
	l := sampleSchemes()
	for i, a := range l {
		for k, b := range l {
			c := l[(i*3+k*5)%len(l)]
			var words string
			for _, scheme := range []string{a, b, c} {
				_, of, _ := strings.Cut(scheme, " ")
				words += " " + of
			}
			var want []int
			for _, word := range firsts(words, isVar) {
				want = append(want, number(word))
			}
			if got := Free(schemeOf(a), schemeOf(b), schemeOf(c)); !slices.Equal(got, want) {
				t.Fatalf("Free(%s, %s, %s) = %v; want %v", a, b, c, got, want)
			}
		}
	}
}

// P14.3: Equal of all pairs of these.
func TestEqual(t *testing.T) {
	l := append(sampleSchemes(), "1 Int", "-1 Int", "2 b0", "0 b0", "1 b1", "0 x", "0 y", "2 -> b1 b0", "0 r0.0", "0 r0.2", "0 r2.0")
	for _, a := range l {
		for _, b := range l {
			if got := Equal(schemeOf(a), schemeOf(b)); got != (a == b) {
				t.Errorf("Equal(%s, %s) is %v", a, b, got)
			}
		}
	}
	if !Equal(api.Scheme{Type: api.Type{Kind: api.TypeCon, Name: "T"}}, api.Scheme{Type: api.Type{Kind: api.TypeCon, Name: "T", Args: []api.Type{}}}) {
		t.Error("Equal tells empty lists apart")
	}
	if !Equal(api.Scheme{}, api.Scheme{}) || Equal(api.Scheme{}, api.Scheme{Count: 1}) {
		t.Error("Equal of schemes that are not valid")
	}
}

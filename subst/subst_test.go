package subst

import (
	"math"
	"slices"
	"strconv"
	"strings"
	"testing"

	"typedholes/api"
	"typedholes/types"
)

// P13.1: Apply of a few substitutions.
func TestApply(t *testing.T) {
	for _, c := range []struct{ s, words, want string }{
		{"", "-> 0 1", "-> 0 1"},
		{"0=1;1=0", "-> 0 1", "-> 1 0"}, // all at once
		{"0=L 0", "P 0 0", "P L 0 L 0"},
		{"0=1;1=2;2=Int", "Q 0 1 2", "Q 1 2 Int"},
		{"1=Int", "Q b1 r1.1 r-1.1", "Q b1 r1.1 r-1.1"},
		{"0=Int", "P T a", "P T a"},
		{"0=b0", "-> 0 b0", "-> b0 b0"},
		{"1=Int", "P 11 10", "P 11 10"},
		{"2=T;0=L 2", "0", "L 2"},
		{"1000000=0", "L 1000000", "L 0"},
	} {
		if got := write(Apply(assigns(c.s), typeOf(c.words))); got != c.want {
			t.Errorf("Apply(%s, %s) = %s; want %s", c.s, c.words, got, c.want)
		}
	}
}

// P13.1: Apply agrees with the replacement of words, and with types.Replace, also
// for a substitution that is not valid.
func TestApplyInWords(t *testing.T) {
	for _, s := range sampleAssigns() {
		for _, words := range sampleTypes() {
			if got, want := write(Apply(assigns(s), typeOf(words))), applied(s, words); got != want {
				t.Fatalf("Apply(%s, %s) = %s; want %s", s, words, got, want)
			}
		}
	}
	for _, words := range sampleTypes() {
		s, x := assigns("0=Int;1=L 1;0=T;1=0"), typeOf(words)
		if got, want := Apply(s, x), types.Replace(x, s); !types.Equal(got, want) {
			t.Errorf("Apply of a list with two types for a variable to %s = %s; want %s", words, write(got), write(want))
		}
	}
}

// P13.1: ApplyScheme changes the type alone, and captures nothing.
func TestApplyScheme(t *testing.T) {
	for _, c := range []struct {
		s     string
		count int
		words string
		want  string
	}{
		{"0=Int;1=T", 2, "-> b0 -> b1 0", "-> b0 -> b1 Int"},
		{"0=b0", 1, "-> b0 0", "-> b0 b0"},
		{"0=1;1=0", 0, "P 0 1", "P 1 0"},
		{"5=L 0", 3, "Q b0 b1 b2", "Q b0 b1 b2"},
		{"", 1, "-> b0 3", "-> b0 3"},
		{"3=-> 0 3", 1, "-> b0 3", "-> b0 -> 0 3"},
	} {
		got := ApplyScheme(assigns(c.s), api.Scheme{Count: c.count, Type: typeOf(c.words)})
		if got.Count != c.count || write(got.Type) != c.want {
			t.Errorf("ApplyScheme(%s, %d %s) = %d %s; want %s", c.s, c.count, c.words, got.Count, write(got.Type), c.want)
		}
	}
	for _, s := range sampleAssigns() {
		for i, words := range sampleTypes() {
			got := ApplyScheme(assigns(s), api.Scheme{Count: i, Type: typeOf(words)})
			if want := applied(s, words); got.Count != i || write(got.Type) != want {
				t.Fatalf("ApplyScheme(%s, %d %s) = %d %s; want %s", s, i, words, got.Count, write(got.Type), want)
			}
		}
	}
}

// contextOf returns a context with these types; some names occur twice.
func contextOf(l []string) []api.Entry {
	var out []api.Entry
	for i, words := range l {
		out = append(out, api.Entry{Name: "x" + strconv.Itoa(i%5), Scheme: api.Scheme{Count: i % 3, Type: typeOf(words)}})
	}
	return out
}

// writeContext writes a context.
func writeContext(l []api.Entry) string {
	var parts []string
	for _, entry := range l {
		parts = append(parts, entry.Name+" : "+strconv.Itoa(entry.Scheme.Count)+" "+write(entry.Scheme.Type))
	}
	return strings.Join(parts, ", ")
}

// P13.1: ApplyContext changes the types of all schemes, and leaves the names and
// their order.
func TestApplyContext(t *testing.T) {
	for _, s := range sampleAssigns() {
		for length := range 12 {
			l := sampleTypes()[length : 3*length]
			var want []string
			for _, words := range l {
				want = append(want, applied(s, words))
			}
			if got, want := writeContext(ApplyContext(assigns(s), contextOf(l))), writeContext(contextOf(want)); got != want {
				t.Fatalf("ApplyContext(%s, %v) = %s; want %s", s, l, got, want)
			}
		}
	}
	if got := ApplyContext(assigns("0=Int"), nil); len(got) != 0 {
		t.Errorf("ApplyContext of no entries = %s", writeContext(got))
	}
	got := writeContext(ApplyContext(assigns("0=Int"), contextOf([]string{"0", "-> b0 0", "1", "0"})))
	if want := "x0 : 0 Int, x1 : 1 -> b0 Int, x2 : 2 1, x3 : 0 Int"; got != want {
		t.Errorf("ApplyContext = %s; want %s", got, want)
	}
}

// P13.1: the valid substitutions.
func TestValid(t *testing.T) {
	for _, c := range []struct {
		s    string
		want bool
	}{
		{"", true}, {"0=0", true}, {"0=Int", true}, {"1000000=1000000", true}, {"1000001=0", false}, {"-1=0", false}, {"0=1000001", false},
		{"0=1;1=0", true}, {"0=1;0=1", false}, {"0=1;0=2", false}, {"3=1;0=1;2=2;3=1", false}, {"0=1;1=1;1=T", false}, {"5=1;4=1;3=1;2=1;1=1;0=1", true},
		{"0=b0;1=r-1.0;2=a;3=b1000000", true}, {"0=b1000001", false}, {"0=r-2.0", false}, {"0=let", false}, {"0=T;1=L L abcdefghijklm", false},
		{"0=T;1=L x;2=lower", true}, {"0=T;1=Q 0 1 b-1", false}, {"0=T;1000001=T;2=T", false},
	} {
		if got := Valid(assigns(c.s)); got != c.want {
			t.Errorf("Valid(%s) is %v", c.s, got)
		}
	}
}

// P13.1: the bounds of the numbers, and types that are not valid.
func TestValidParts(t *testing.T) {
	for _, id := range []int{math.MinInt, -1000000, -2, -1, 0, 1, 2, 999999, 1000000, 1000001, math.MaxInt32, math.MaxInt} {
		want := 0 <= id && id <= 1000000
		for _, s := range [][]api.Assign{{{Id: id, Type: types.Int()}}, {{Id: 7, Type: types.Int()}, {Id: id, Type: types.Var(id)}}, {{Id: 7, Type: types.Var(id)}}} {
			if got := Valid(s); got != want {
				t.Errorf("Valid(%s) is %v", writeAll(s), got)
			}
		}
	}
	for _, x := range strange() {
		for _, s := range [][]api.Assign{{{Type: x}}, {{Type: types.Int()}, {Id: 1, Type: x}, {Id: 2, Type: types.Int()}}, {{Type: types.Con("L", x)}}} {
			if Valid(s) {
				t.Errorf("%s is valid", writeAll(s))
			}
		}
	}
}

// strange returns types that are not valid.
func strange() []api.Type {
	full := api.Type{Kind: api.TypeVar, Name: "x", Id: 1, Home: 7, Args: []api.Type{types.Var(0), {}}}
	return []api.Type{
		{}, {Kind: -1}, {Kind: 6, Args: []api.Type{types.Var(0)}}, {Kind: math.MaxInt}, types.Var(-1), types.Var(math.MaxInt), {Kind: api.TypeVar, Home: 1}, full,
		types.Con("->"), types.Con("->", types.Var(0)), types.Con("Int", types.Var(0)), types.Con(""), types.Con("lower"), types.Con("\xff"),
		{Kind: api.TypeName}, {Kind: api.TypeName, Name: "X"}, {Kind: api.TypeBound, Id: -1}, {Kind: api.TypeRigid, Home: -2}, {Kind: api.TypeRigid, Id: -1}, {Kind: api.TypeRigid, Name: "r"},
		types.Con("T", full), types.Con("->", full, api.Type{}), types.Con("T", slices.Repeat([]api.Type{types.Int()}, 5)...),
	}
}

// P13.1: Valid of all lists with up to three of these elements.
func TestValidOfAll(t *testing.T) {
	elements := []string{"0=1", "1=1", "2=L 0", "0=Int", "1=L 1000001", "1000001=0", "2=b0"}
	lists := []string{""}
	for range 3 {
		for _, list := range lists {
			for _, element := range elements {
				lists = append(lists, strings.TrimPrefix(list+";"+element, ";"))
			}
		}
	}
	for _, list := range lists {
		want := !strings.Contains(list, "1000001")
		for i, part := range strings.Split(list, ";") {
			if list != "" {
				id, _, _ := strings.Cut(part, "=")
				earlier := ";" + strings.Join(strings.Split(list, ";")[:i], ";")
				want = want && !strings.Contains(earlier, ";"+id+"=")
			}
		}
		if got := Valid(assigns(list)); got != want {
			t.Fatalf("Valid(%s) is %v", list, got)
		}
	}
}

// P0.8 for P13.1: Valid reads the longest valid substitution in a short time.
func TestValidLong(t *testing.T) {
	var s []api.Assign
	for id := range 1000001 {
		s = append(s, api.Assign{Id: 1000000 - id, Type: types.Int()})
	}
	if !Valid(s) {
		t.Error("the longest substitution is not valid")
	}
	if Valid(append(s, api.Assign{Id: 1000000, Type: types.Int()})) || Valid(append(s, api.Assign{Id: 0, Type: types.Int()})) {
		t.Error("a list with a variable that has two types is valid")
	}
}

// P13.1: Idempotent of a few substitutions.
func TestIdempotent(t *testing.T) {
	for _, c := range []struct {
		s    string
		want bool
	}{
		{"", true}, {"0=0", true}, {"0=Int", true}, {"0=1", true}, {"0=L 0", false}, {"0=P 1 0", false}, {"0=1;1=0", false}, {"0=1;1=1", true}, {"0=1;1=Int", false},
		{"1=Int;0=1", false}, {"0=P 1 2;1=1;2=2", true}, {"0=P 1 2;1=1;2=1", false}, {"0=P 1 2;1=L 1", false}, {"0=b0;1=b1", true}, {"0=b1;1=r0.0;2=a", true},
		{"0=L b0;3=-> 2 2", true}, {"0=L b0;3=-> 2 L 0", false}, {"0=1;2=1;3=1", true}, {"0=P 1 1;2=L 1;3=Q 1 4 5", true}, {"0=P 1 1;2=L 1;3=Q 1 4 5;5=5;4=5", false},
		{"0=r1.1;1=Int", true}, {"0=Q T T 1;2=1;1=T", false}, {"1000000=0", true}, {"1000000=0;0=0", true}, {"1000000=0;0=1000000", false},
	} {
		if got := Idempotent(assigns(c.s)); got != c.want {
			t.Errorf("Idempotent(%s) is %v", c.s, got)
		}
	}
}

// P13.1: a substitution is idempotent exactly if there is no type that becomes a
// different one when it is applied again.
func TestIdempotentInWords(t *testing.T) {
	count := map[bool]int{}
	for _, s := range sampleAssigns() {
		want := true
		for _, words := range append(sampleTypes(), "10", "11", "100", "1000000") {
			once := applied(s, words)
			want = want && applied(s, once) == once
		}
		count[want]++
		if got := Idempotent(assigns(s)); got != want {
			t.Errorf("Idempotent(%s) is %v", s, got)
		}
	}
	if count[true] < 20 || count[false] < 20 {
		t.Errorf("only %v", count)
	}
}

// P0.8 for P13.1: applying twice can make a type that is too large to be made.
func TestIdempotentLarge(t *testing.T) {
	wide := types.Var(1)
	for range 17 {
		wide = types.Con("P", wide, wide)
	}
	s := []api.Assign{{Id: 0, Type: wide}, {Id: 1, Type: wide}}
	if Idempotent(s) {
		t.Error("a variable that becomes a large type stays as it is")
	}
	s[1].Type = types.Var(1)
	if !Idempotent(s) {
		t.Error("a large type changes")
	}
}

// P13.2: Compose of a few substitutions.
func TestCompose(t *testing.T) {
	for _, c := range []struct{ a, b, want string }{
		{"0=L 1", "1=Int", "0=L Int;1=Int"},
		{"1=Int", "0=L 1", "1=Int;0=L 1"}, // not L Int: b is the last one
		{"0=1", "0=Int;1=0", "0=0;1=0"},
		{"0=1;1=2", "2=0", "0=1;1=0;2=0"},
		{"0=1", "1=0", "0=0;1=0"}, // what stays in the end is kept
		{"2=0;1=0;0=0", "3=T;0=L 0;4=T;2=Int", "2=L 0;1=L 0;0=L 0;3=T;4=T"},
		{"0=b0;1=r0.1", "0=Int;1=Int", "0=b0;1=r0.1"},
		{"", "", ""},
		{"", "1=2;0=1", "1=2;0=1"},
		{"1=2;0=1", "", "1=2;0=1"},
		{"5=P 5 5", "5=L 5", "5=P L 5 L 5"},
		{"1=10", "10=1;1=10", "1=1;10=1"},
	} {
		if got := writeAll(Compose(assigns(c.a), assigns(c.b))); got != c.want {
			t.Errorf("Compose(%s, %s) = %s; want %s", c.a, c.b, got, c.want)
		}
	}
}

// P13.2: Compose agrees with the composition of what is written.
func TestComposeInWords(t *testing.T) {
	for _, a := range sampleAssigns() {
		for _, b := range sampleAssigns() {
			var want []string
			for _, assign := range assigns(a) {
				want = append(want, strconv.Itoa(assign.Id)+"="+applied(b, write(assign.Type)))
			}
			for _, assign := range assigns(b) {
				if _, found := given(a, strconv.Itoa(assign.Id)); !found {
					want = append(want, writeAll([]api.Assign{assign}))
				}
			}
			if got := writeAll(Compose(assigns(a), assigns(b))); got != strings.Join(want, ";") {
				t.Fatalf("Compose(%s, %s) = %s; want %v", a, b, got, want)
			}
		}
	}
}

// P13.3: Equal of a few substitutions.
func TestEqual(t *testing.T) {
	for _, c := range []struct {
		a, b string
		ids  []int
		want bool
	}{
		{"", "", nil, true},
		{"0=Int", "0=T", nil, true},
		{"0=Int", "0=T", []int{1, 2}, true},
		{"0=Int", "0=T", []int{1, 0}, false},
		{"0=Int", "", []int{0}, false},
		{"", "0=Int", []int{0}, false},
		{"", "0=0;1=1", []int{0, 1, 2}, true}, // a variable without an assignment stays
		{"0=1", "1=0", []int{0}, false},
		{"0=1;2=T", "3=T;2=T;0=1", []int{2, 0}, true},
		{"0=1;2=T", "3=T;2=T;0=1", []int{2, 0, 3}, false},
		{"0=P 1 2", "0=P 2 1", []int{0}, false},
		{"0=P 1 2", "0=P 1 2", []int{0, 0, 0}, true},
		{"0=b1", "0=1", []int{0}, false},
		{"0=r0.1", "0=r1.1", []int{0}, false},
		{"1000000=T", "", []int{1000000}, false},
	} {
		if got := Equal(assigns(c.a), assigns(c.b), c.ids); got != c.want {
			t.Errorf("Equal(%s, %s, %v) is %v", c.a, c.b, c.ids, got)
		}
	}
	a, b := []api.Assign{{Type: api.Type{Kind: api.TypeCon, Name: "T"}}}, []api.Assign{{Type: api.Type{Kind: api.TypeCon, Name: "T", Args: []api.Type{}}}}
	if !Equal(a, b, []int{0}) {
		t.Error("Equal tells empty lists apart")
	}
}

// idLists returns lists of type variables.
func idLists() [][]int {
	return [][]int{nil, {0}, {1}, {2}, {3}, {0, 1}, {1, 0}, {2, 0}, {0, 1, 2}, {2, 1, 0}, {3, 1, 0, 2}, {0, 0, 1, 0}, {10, 0}, {1000000, 100, 10, 3, 2, 1, 0}}
}

// P13.3: Equal agrees with the words of the variables.
func TestEqualInWords(t *testing.T) {
	for _, a := range sampleAssigns() {
		for _, b := range sampleAssigns() {
			for _, ids := range idLists() {
				want := true
				for _, id := range ids {
					want = want && applied(a, strconv.Itoa(id)) == applied(b, strconv.Itoa(id))
				}
				if got := Equal(assigns(a), assigns(b), ids); got != want {
					t.Fatalf("Equal(%s, %s, %v) is %v", a, b, ids, got)
				}
			}
		}
	}
}

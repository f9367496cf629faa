package readtype

import (
	"math"
	"slices"
	"strings"
	"testing"

	"typedholes/api"
	"typedholes/token"
	"typedholes/types"
)

func lower(text string) api.Token { return api.Token{Kind: api.TokenLower, Text: text} }

func upper(text string) api.Token { return api.Token{Kind: api.TokenUpper, Text: text} }

func mark(text string) api.Token { return api.Token{Kind: api.TokenMark, Text: text} }

func name(text string) api.Type { return api.Type{Kind: api.TypeName, Name: text} }

// scan returns the tokens of a text.
func scan(t *testing.T, src string) []api.Token {
	t.Helper()
	l, fault := token.Scan(src)
	if fault != (api.Fault{}) {
		t.Fatalf("Scan(%q) = %v", src, fault)
	}
	return l
}

// result is what Type or Atom returns.
type result struct {
	t     api.Type
	next  int
	fault api.Fault
}

func apply(f func([]api.Token, int) (api.Type, int, api.Fault), l []api.Token, i int) result {
	t, next, fault := f(l, i)
	return result{t, next, fault}
}

func (r result) is(other result) bool {
	return types.Equal(r.t, other.t) && r.next == other.next && r.fault == other.fault
}

func refused(pos int) result { return result{fault: api.Fault{Err: api.ErrSyntax, Pos: pos}} }

// P5.1: the types of tokens, and how many tokens belong to them.
func TestType(t *testing.T) {
	a, b, c := name("a"), name("b"), name("c")
	con, arrow := types.Con, types.Arrow
	for _, x := range []struct {
		src  string
		want api.Type
		next int
	}{
		{"List a -> Int", arrow(con("List", a), types.Int()), 4}, // the chapter's example
		{"a", a, 1},
		{"Int", types.Int(), 1},
		{"T", con("T"), 1},
		{"a -> b", arrow(a, b), 3},
		{"a -> b -> c", arrow(a, arrow(b, c)), 5},
		{"a -> b -> c -> a", arrow(a, arrow(b, arrow(c, a))), 7},
		{"(a -> b) -> c", arrow(arrow(a, b), c), 7},
		{"a -> (b -> c)", arrow(a, arrow(b, c)), 7},
		{"(a -> b) -> (b -> c) -> a", arrow(arrow(a, b), arrow(arrow(b, c), a)), 13},
		{"((a -> b) -> c) -> a", arrow(arrow(arrow(a, b), c), a), 11},
		{"(a)", a, 3},
		{"((T))", con("T"), 5},
		{"T a b", con("T", a, b), 3},
		{"T a b c a", con("T", a, b, c, a), 5},
		{"T U V", con("T", con("U"), con("V")), 3},
		{"T (U a) b", con("T", con("U", a), b), 6},
		{"T a (U b) (U c)", con("T", a, con("U", b), con("U", c)), 10},
		{"T (a) (U)", con("T", a, con("U")), 7},
		{"T (a -> b) c", con("T", arrow(a, b), c), 7},
		{"T (U (V a))", con("T", con("U", con("V", a))), 8},
		{"(T) -> U", arrow(con("T"), con("U")), 5},
		{"T a -> U b c -> V", arrow(con("T", a), arrow(con("U", b, c), con("V"))), 8},
		{"(T a) -> b", arrow(con("T", a), b), 6},
		// What takes no arguments ends before the next atom.
		{"a b", a, 1},
		{"a T", a, 1},
		{"a (b)", a, 1},
		{"(T) a", con("T"), 3},
		{"(T a) b", con("T", a), 4},
		{"(a) -> b c", arrow(a, b), 5},
		{"T a -> b c", arrow(con("T", a), b), 4},
		// What does not continue a type ends it.
		{"a = b", a, 1},
		{"T a;", con("T", a), 2},
		{"a -> b)", arrow(a, b), 3},
		{"T a) -> b", con("T", a), 2},
		{"T a | U b", con("T", a), 2},
		{"T 1", con("T"), 1},
		{"T in", con("T"), 1},
		{"T ?", con("T"), 1},
		{"(a)) -> b", a, 3},
		// The grammar bounds neither the number of arguments nor whether a name has any.
		{"Int a", con("Int", a), 2},
		{"T a a a a a a a", con("T", a, a, a, a, a, a, a), 8},
	} {
		if got := apply(Type, scan(t, x.src), 0); !got.is(result{t: x.want, next: x.next}) {
			t.Errorf("Type(%q) = %+v; want %+v and %d", x.src, got, x.want, x.next)
		}
	}
}

// P5.1: an atom takes neither arguments nor an arrow.
func TestAtom(t *testing.T) {
	a, b := name("a"), name("b")
	for _, x := range []struct {
		src  string
		want api.Type
		next int
	}{
		{"a", a, 1},
		{"T", types.Con("T"), 1},
		{"a b", a, 1},
		{"T a", types.Con("T"), 1},
		{"T (a)", types.Con("T"), 1},
		{"a -> b", a, 1},
		{"T -> b", types.Con("T"), 1},
		{"a ->", a, 1},
		{"(a)", a, 3},
		{"(T a)", types.Con("T", a), 4},
		{"(a -> b) -> b", types.Arrow(a, b), 5},
		{"((T a -> b)) a", types.Arrow(types.Con("T", a), b), 8},
		{"(a) (b)", a, 3},
	} {
		if got := apply(Atom, scan(t, x.src), 0); !got.is(result{t: x.want, next: x.next}) {
			t.Errorf("Atom(%q) = %+v; want %+v and %d", x.src, got, x.want, x.next)
		}
	}
}

// P5.1: the first unexpected token, and nothing beside it.
func TestErrors(t *testing.T) {
	for _, x := range []struct {
		src        string
		typ, atom  int
		atomIsRead bool
	}{
		{"( a ->", 6, 6, false}, // the chapter's example
		{"", 0, 0, false},
		{"# nothing", 0, 0, false},
		{"->", 0, 0, false},
		{" -> a", 1, 1, false},
		{")", 0, 0, false},
		{"  5", 2, 2, false},
		{"data", 0, 0, false},
		{"a ->", 4, 0, true},
		{"a -> # nothing", 4, 0, true},
		{"a -> -> b", 5, 0, true},
		{"a -> )", 5, 0, true},
		{"a -> =", 5, 0, true},
		{"a -> b ->", 9, 0, true},
		{"a -> b -> 7", 10, 0, true},
		{"T ->", 4, 0, true},
		{"(", 1, 1, false},
		{"((", 2, 2, false},
		{"()", 1, 1, false},
		{"(()", 2, 2, false},
		{"(->", 1, 1, false},
		{"(a", 2, 2, false},
		{"(abc", 4, 4, false},
		{"( abc  ", 5, 5, false},
		{"((a)", 4, 4, false},
		{"(a b)", 3, 3, false},
		{"(a (b))", 3, 3, false},
		{"((a) b)", 5, 5, false},
		{"(a -> )", 6, 6, false},
		{"(a = b)", 3, 3, false},
		{"(T a", 4, 4, false},
		{"(T a }", 5, 5, false},
		{"(T a b |)", 7, 7, false},
		{"(T (a b))", 6, 6, false},
		{"T (a", 4, 0, true},
		{"T ()", 3, 0, true},
		{"T a (b -> )", 10, 0, true},
		{"T (a) (", 7, 0, true},
		{"T a -> U (b", 11, 0, true},
		{"T (U (a) b -> 1)", 14, 0, true},
		{"(a) -> (b -> c", 14, 0, true},
		{"(a -> (b -> c)", 14, 14, false},
	} {
		l := scan(t, x.src)
		if got := apply(Type, l, 0); !got.is(refused(x.typ)) {
			t.Errorf("Type(%q) = %+v; want ErrSyntax at %d", x.src, got, x.typ)
		}
		if got := apply(Atom, l, 0); !x.atomIsRead && !got.is(refused(x.atom)) || x.atomIsRead && got.fault != (api.Fault{}) {
			t.Errorf("Atom(%q) = %+v; want ErrSyntax at %d or, %v, an atom", x.src, got, x.atom, x.atomIsRead)
		}
	}
}

// P5.1: reading begins at the index, and the results count from the beginning of
// the list.
func TestIndex(t *testing.T) {
	l := scan(t, "let f : List a -> (b) = ( c")
	list, b := types.Con("List"), name("b")
	arrow := types.Arrow(types.Con("List", name("a")), b)
	at := func(i int) result { return refused(l[i].Pos) }
	end := refused(27)
	for i, x := range []struct{ typ, atom result }{
		{at(0), at(0)}, {result{t: name("f"), next: 2}, result{t: name("f"), next: 2}}, {at(2), at(2)},
		{result{t: arrow, next: 9}, result{t: list, next: 4}},
		{result{t: types.Arrow(name("a"), b), next: 9}, result{t: name("a"), next: 5}},
		{at(5), at(5)}, {result{t: b, next: 9}, result{t: b, next: 9}}, {result{t: b, next: 8}, result{t: b, next: 8}},
		{at(8), at(8)}, {at(9), at(9)}, {end, end}, {result{t: name("c"), next: 12}, result{t: name("c"), next: 12}},
		{end, end},
	} {
		if typ, atom := apply(Type, l, i), apply(Atom, l, i); !typ.is(x.typ) || !atom.is(x.atom) {
			t.Errorf("from %d: %+v and %+v; want %+v", i, typ, atom, x)
		}
	}
}

// P5.1: an index that is none counts as the length, also where the list begins
// or ends with a type.
func TestIndexOutside(t *testing.T) {
	for src, end := range map[string]int{"": 0, " # x": 0, "a": 1, "  List a -> Int \n": 15, "a ->": 4, "(": 1, "= abc # a": 5} {
		l := scan(t, src)
		for _, i := range []int{math.MinInt, math.MinInt32, -len(l) - 1, -len(l), -2, -1, len(l), len(l) + 1, len(l) + 2, 2*len(l) + 3, math.MaxInt32, math.MaxInt} {
			if i >= 0 && i < len(l) {
				continue
			}
			if typ, atom := apply(Type, l, i), apply(Atom, l, i); !typ.is(refused(end)) || !atom.is(refused(end)) {
				t.Errorf("%q from %d: %+v and %+v; want ErrSyntax at %d", src, i, typ, atom, end)
			}
		}
	}
}

// P5.1: the end is that of the last token of the list, whatever comes before it
// or lies behind it in memory.
func TestEnd(t *testing.T) {
	token := func(kind int, text string, pos int) api.Token { return api.Token{Kind: kind, Text: text, Pos: pos} }
	l := []api.Token{token(api.TokenLower, "a", 70), token(api.TokenMark, "(", 9), token(api.TokenUpper, "List", 30), token(api.TokenMark, "->", 5), token(api.TokenMark, ")", 100)}
	for _, c := range []struct{ from, to, i, end int }{
		{0, 1, 1, 71}, {0, 2, 1, 10}, {0, 3, 1, 34}, {0, 4, 1, 7}, {0, 4, 2, 7}, {1, 3, 0, 34}, {2, 4, 0, 7}, {0, 0, 0, 0}, {3, 3, 0, 0}, {0, 5, 5, 101},
	} {
		if got := apply(Type, l[c.from:c.to], c.i); !got.is(refused(c.end)) {
			t.Errorf("Type of the tokens %d to %d from %d = %+v; want ErrSyntax at %d", c.from, c.to, c.i, got, c.end)
		}
	}
}

// strange returns tokens that no atom begins with, many of them not valid.
func strange() []api.Token {
	var out []api.Token
	for _, text := range []string{"", "a", "T", "Int", "(", ")", "->", "-", ">", "=", "1", "in"} {
		for _, kind := range []int{math.MinInt, -1, 0, api.TokenInt, api.TokenWord, 6, math.MaxInt} {
			out = append(out, api.Token{Kind: kind, Text: text})
		}
	}
	for _, text := range []string{"", "a", "T", ")", "{", "}", "[", "\\", ".", "=", ";", ":", "|", "?", "->", "-", ">", "((", "()", " (", "( ", "let"} {
		out = append(out, mark(text))
	}
	return out
}

// P5.1: an atom begins with a lower or upper name or a left parenthesis.
func TestStarts(t *testing.T) {
	for _, x := range []api.Token{lower("a"), lower("abc_1"), upper("T"), upper("Int"), mark("(")} {
		for _, pos := range []int{math.MinInt, -1, 0, 1, 3999, 4000, math.MaxInt} {
			x.Pos = pos
			if !Starts(x) {
				t.Errorf("no atom begins with %+v", x)
			}
		}
	}
	for _, x := range strange() {
		if Starts(x) {
			t.Errorf("an atom begins with %+v", x)
		}
	}
	for _, x := range scan(t, `data let rec in case of end \ . = ; : | ) { } ? -> 0 12`) {
		if Starts(x) {
			t.Errorf("an atom begins with %+v", x)
		}
	}
}

// P5.1: the kind of a token tells names apart, whatever its text is.
func TestKinds(t *testing.T) {
	for _, text := range []string{"", "a", "T", "(", ")", "->", "let", "7", "\xff", "a name with many letters"} {
		if !Starts(lower(text)) || !Starts(upper(text)) {
			t.Errorf("no atom begins with a name %q", text)
		}
		l := []api.Token{upper(text), lower(text), upper(text), lower(text), mark("->"), lower(text), upper(text)}
		want := types.Arrow(types.Con(text, name(text), types.Con(text), name(text)), name(text))
		if got := apply(Type, l, 0); !got.is(result{t: want, next: 6}) {
			t.Errorf("names %q are read as %+v", text, got)
		}
	}
}

// P5.1 and P5.2: tokens that are unexpected, wherever they stand; they end what
// is complete.
func TestStrange(t *testing.T) {
	a, b := name("a"), name("b")
	for _, x := range strange() {
		x.Pos = 77
		for _, c := range []struct {
			before    []api.Token
			typ, atom result
		}{
			{nil, refused(77), refused(77)},
			{[]api.Token{lower("a")}, result{t: a, next: 1}, result{t: a, next: 1}},
			{[]api.Token{upper("T")}, result{t: types.Con("T"), next: 1}, result{t: types.Con("T"), next: 1}},
			{[]api.Token{upper("T"), lower("a")}, result{t: types.Con("T", a), next: 2}, result{t: types.Con("T"), next: 1}},
			{[]api.Token{lower("a"), mark("->")}, refused(77), result{t: a, next: 1}},
			{[]api.Token{lower("a"), mark("->"), lower("b")}, result{t: types.Arrow(a, b), next: 3}, result{t: a, next: 1}},
			{[]api.Token{mark("(")}, refused(77), refused(77)},
			{[]api.Token{mark("("), lower("a"), mark("->")}, refused(77), refused(77)},
			{[]api.Token{mark("("), lower("a"), mark(")")}, result{t: a, next: 3}, result{t: a, next: 3}},
		} {
			isArrow := x.Kind == api.TokenMark && x.Text == "->"
			if isArrow && len(c.before) > 0 {
				continue // an arrow continues most of these
			}
			l := append(slices.Clone(c.before), x, lower("b"), mark(")"))
			if typ, atom := apply(Type, l, 0), apply(Atom, l, 0); !typ.is(c.typ) || !atom.is(c.atom) {
				t.Errorf("%+v: %+v and %+v; want %+v and %+v", l, typ, atom, c.typ, c.atom)
			}
		}
		// A left parenthesis is closed by the mark ) alone.
		l := []api.Token{mark("("), lower("a"), x, lower("b"), mark(")")}
		want := refused(77)
		if x.Kind == api.TokenMark && x.Text == ")" {
			want = result{t: a, next: 3}
		} else if x.Kind == api.TokenMark && x.Text == "->" {
			want = result{t: types.Arrow(a, b), next: 5}
		}
		if got := apply(Type, l, 0); !got.is(want) {
			t.Errorf("Type(%+v) = %+v; want %+v", l, got, want)
		}
	}
}

// P0.4: the tokens do not change, nor does what lies behind them in memory.
func TestArguments(t *testing.T) {
	for _, src := range []string{"", "T (a -> b) c d", "(a -> b", "a -> )", "T a | U"} {
		l := scan(t, src)
		for size := range len(l) + 1 {
			spare := slices.Clone(l)
			for i := range len(l) + 1 {
				Type(spare[:size], i)
				Atom(spare[:size], i)
			}
			if !slices.Equal(spare, l) {
				t.Fatalf("the tokens of %q have changed to %+v", src, spare)
			}
		}
	}
}

// P5.1: a type is what it was when its arguments were read, also after others.
func TestResultsAreKept(t *testing.T) {
	l := scan(t, "T a (U b) -> T c (U d)")
	var got []api.Type
	for i := range l {
		x, _, _ := Type(l, i)
		got = append(got, x)
	}
	for i := range l {
		x, _, _ := Type(l, i)
		for k := range x.Args {
			x.Args[k] = name("other")
		}
		if again, _, _ := Type(l, i); !types.Equal(again, got[i]) {
			t.Errorf("the type at %d has become %+v", i, again)
		}
	}
}

// nested returns open, a name and close, with count of the first and the last.
func nested(count int, open []api.Token, close api.Token) []api.Token {
	l := append(slices.Repeat(open, count), lower("a"))
	return append(l, slices.Repeat([]api.Token{close}, count)...)
}

// P0.1 and P0.8: deep and long types are read to their ends.
func TestLarge(t *testing.T) {
	const deep = 1 << 16
	a := name("a")
	arrow := append(slices.Repeat([]api.Token{lower("a"), mark("->")}, deep), lower("a"))
	left := append(slices.Repeat([]api.Token{mark("(")}, deep), lower("a"))
	left = append(left, slices.Repeat([]api.Token{mark("->"), lower("a"), mark(")")}, deep)...)
	for _, c := range []struct {
		name         string
		l            []api.Token
		nodes, depth int
	}{
		{"parentheses", nested(deep, []api.Token{mark("(")}, mark(")")), 1, 0},
		{"arguments", nested(deep, []api.Token{upper("T"), mark("(")}, mark(")")), deep + 1, deep},
		{"arrows to the right", arrow, 2*deep + 1, deep},
		{"arrows to the left", left, 2*deep + 1, deep},
		{"one constructor", append([]api.Token{upper("T")}, slices.Repeat([]api.Token{lower("a")}, 10*deep)...), 10*deep + 1, 1},
	} {
		got := apply(Type, c.l, 0)
		if got.fault != (api.Fault{}) || got.next != len(c.l) || types.Nodes(got.t) != c.nodes || types.Depth(got.t) != c.depth {
			t.Errorf("%s: %v, %d, %d nodes, depth %d", c.name, got.fault, got.next, types.Nodes(got.t), types.Depth(got.t))
		}
	}
	open := slices.Repeat([]api.Token{{Kind: api.TokenMark, Text: "(", Pos: 5}}, deep)
	if got := apply(Type, open, 0); !got.is(refused(6)) {
		t.Errorf("left parentheses: %+v", got)
	}
	if got := apply(Atom, append(open, api.Token{Kind: api.TokenMark, Text: "->", Pos: 9}), 0); !got.is(refused(9)) {
		t.Errorf("an arrow behind left parentheses: %+v", got)
	}
	if got := apply(Type, append([]api.Token{lower("b")}, nested(deep, []api.Token{mark("(")}, mark(")"))...), 0); !got.is(result{t: name("b"), next: 1}) {
		t.Errorf("a name before an atom: %+v", got)
	}
	if x, _, _ := Type(nested(deep, []api.Token{mark("(")}, mark(")")), 0); !types.Equal(x, a) {
		t.Errorf("parentheses: %+v", x)
	}
}

// texts returns the type as it can be written, without parentheses around the
// whole: with as few parentheses as possible, and with twice as many as needed
// around all parts.
func texts(t api.Type) (string, string) {
	if t.Kind == api.TypeName {
		return t.Name, t.Name
	}
	if from, to, is := types.IsArrow(t); is {
		f, fAll := texts(from)
		g, gAll := texts(to)
		if _, _, is := types.IsArrow(from); is {
			f = "(" + f + ")"
		}
		return f + " -> " + g, "((" + fAll + ")) -> ((" + gAll + "))"
	}
	few, all := []string{t.Name}, []string{t.Name}
	for _, arg := range t.Args {
		f, fAll := texts(arg)
		if len(arg.Args) > 0 {
			f = "(" + f + ")"
		}
		few, all = append(few, f), append(all, "(("+fAll+"))")
	}
	return strings.Join(few, " "), strings.Join(all, " ")
}

// samples returns types of all forms and of all depths up to 3.
func samples() []api.Type {
	out := []api.Type{name("a"), name("b2"), types.Int(), types.Con("Nat")}
	level := slices.Clone(out)
	for depth := range 3 {
		var next []api.Type
		for i, a := range level {
			b, c := out[(7*i+depth)%len(out)], out[(3*i+1)%len(out)]
			next = append(next, types.Con("List", a), types.Arrow(a, b), types.Arrow(b, a), types.Con("P", a, b), types.Con("P", c, a), types.Con("Q4", b, a, c, b))
		}
		out = append(out, next...)
		level = next
	}
	return out
}

// P5.1 and P5.2: a type that was written is read again, with superfluous
// parentheses, too, and whatever stands around it.
func TestReadAgain(t *testing.T) {
	for _, x := range samples() {
		few, all := texts(x)
		for _, src := range []string{few, all, "(" + few + ")", "((" + all + "))"} {
			size := len(scan(t, src))
			for _, around := range [][2]string{{"", ""}, {"let x :", "= y"}, {"(", ")"}, {"T (", ") -> a"}, {"a ->", "; b"}, {"", "# -> a"}, {"x (", "}"}} {
				l := scan(t, around[0]+src+around[1])
				from := len(scan(t, around[0]))
				if got := apply(Type, l, from); !got.is(result{t: x, next: from + size}) {
					t.Fatalf("Type(%q) = %+v; want %+v", around[0]+src+around[1], got, x)
				}
			}
			for _, around := range [][2]string{{"", ""}, {"data X a = C", "a | D"}, {"(T", "-> a"}} {
				l := scan(t, around[0]+"("+src+")"+around[1])
				from := len(scan(t, around[0]))
				if got := apply(Atom, l, from); !got.is(result{t: x, next: from + size + 2}) {
					t.Fatalf("Atom(%q) = %+v; want %+v", around[0]+"("+src+")"+around[1], got, x)
				}
			}
		}
	}
}

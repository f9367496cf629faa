package declare

import (
	"slices"
	"strconv"
	"testing"

	"typedholes/api"
	"typedholes/types"
)

const sampleDatas = "data E = E; data T a = T a; data P a b = P a b;"

// P9.1: types that are read, and their first errors.
func TestFormed(t *testing.T) {
	l := datasOf(t, sampleDatas)
	for _, c := range []struct {
		src  string
		want api.Errno
	}{
		{"Int", api.OK}, {"E", api.OK}, {"a", api.OK}, {"b", api.OK}, {"T a", api.OK}, {"P a b", api.OK}, {"a -> b", api.OK}, {"P (T E) (a -> T (P Int b)) -> (T Int -> E) -> a", api.OK},
		{"c", api.ErrType}, {"U", api.ErrType}, {"U a", api.ErrType}, {"U c", api.ErrType}, {"T c", api.ErrType}, {"T U", api.ErrType}, {"c -> a", api.ErrType}, {"a -> c", api.ErrType}, {"a -> b -> c", api.ErrType}, {"P a c", api.ErrType}, {"P c a", api.ErrType}, {"T (T (T c))", api.ErrType},
		{"t", api.ErrType}, {"int", api.ErrType}, {"e", api.ErrType}, {"A", api.ErrType}, {"ab", api.ErrType},
		{"Int a", api.ErrArity}, {"Int Int", api.ErrArity}, {"E a", api.ErrArity}, {"T", api.ErrArity}, {"T a b", api.ErrArity}, {"P", api.ErrArity}, {"P a", api.ErrArity}, {"P a b a", api.ErrArity}, {"P a b a b a", api.ErrArity},
		{"T T", api.ErrArity}, {"T (E a)", api.ErrArity}, {"Int -> P a", api.ErrArity}, {"P a -> Int", api.ErrArity}, {"(a -> T) -> a", api.ErrArity},
		// The first node with an error, and a TypeCon before its arguments.
		{"T c c", api.ErrArity}, {"T U U", api.ErrArity}, {"P c", api.ErrArity}, {"Int c", api.ErrArity}, {"U T", api.ErrType}, {"U (T a b)", api.ErrType},
		{"P c T", api.ErrType}, {"P T c", api.ErrArity}, {"P T U", api.ErrArity}, {"P U T", api.ErrType}, {"c -> T", api.ErrType}, {"T -> c", api.ErrArity}, {"P (T (T c)) T", api.ErrType}, {"P (T (T T)) c", api.ErrArity}, {"P a (T T) -> c", api.ErrArity}, {"(a -> T c) -> P", api.ErrType},
	} {
		if got := Formed(l, typeOf(t, c.src), []string{"a", "b"}); got != c.want {
			t.Errorf("Formed(%s) = %d; want %d", c.src, got, c.want)
		}
	}
}

// P9.1: the names and the declarations decide about what is known.
func TestFormedKnown(t *testing.T) {
	one, many := datasOf(t, "data T = A;"), datasOf(t, "data Q a b c d = Q; data L a = L (Q a a a a); data Int2 = I; data Zz = Z;")
	for _, c := range []struct {
		datas []api.Data
		src   string
		names []string
		want  api.Errno
	}{
		{nil, "Int", nil, api.OK}, {nil, "Int -> Int", nil, api.OK}, {nil, "a", nil, api.ErrType}, {nil, "a -> Int", []string{"a"}, api.OK}, {nil, "T", nil, api.ErrType}, {nil, "Int Int", nil, api.ErrArity},
		{[]api.Data{}, "a", []string{}, api.ErrType},
		{one, "T", nil, api.OK}, {one, "A", nil, api.ErrType}, {one, "T -> A", nil, api.ErrType}, {one, "T T", nil, api.ErrArity},
		{many, "Q a b b (L b)", []string{"b", "a"}, api.OK}, {many, "Zz -> Int2", nil, api.OK}, {many, "Q a a a", []string{"a"}, api.ErrArity}, {many, "L a a", []string{"a"}, api.ErrArity}, {many, "Zz -> Z", nil, api.ErrType},
		{many, "a -> b -> c -> d -> e -> f", []string{"f", "e", "d", "c", "b", "a"}, api.OK}, {many, "a -> b -> c -> d -> e -> f", []string{"f", "e", "d", "c", "b"}, api.ErrType}, {many, "a", []string{"a", "a"}, api.OK},
		{many, "T", []string{"T"}, api.ErrType}, {many, "a", []string{"Q", "L"}, api.ErrType}, // names are for TypeNames alone
	} {
		if got := Formed(c.datas, typeOf(t, c.src), c.names); got != c.want {
			t.Errorf("Formed(%s, %v) = %d; want %d", c.src, c.names, got, c.want)
		}
	}
	if got := Formed(one, name("T"), nil); got != api.ErrType {
		t.Errorf("a name that is that of a declaration: %d", got)
	}
}

// P9.1: of declarations of the same name, the first one counts, as in Find; and Int
// has no parameters, whatever is declared.
func TestFormedTwice(t *testing.T) {
	l := datasOf(t, "data T a = A; data T = B; data T a b = C; data Int a = D;")
	for src, want := range map[string]api.Errno{"T Int": api.OK, "T": api.ErrArity, "T Int Int": api.ErrArity, "Int": api.OK, "Int Int": api.ErrArity} {
		if got := Formed(l, typeOf(t, src), nil); got != want {
			t.Errorf("Formed(%s) = %d; want %d", src, got, want)
		}
	}
}

// firstError returns the first error of nodes, where counts are the known type
// constructors.
func firstError(l []node, counts map[string]int, names []string) api.Errno {
	for _, n := range l {
		count, isKnown := counts[n.name]
		switch {
		case n.kind == api.TypeName && !slices.Contains(names, n.name), n.kind == api.TypeCon && !isKnown:
			return api.ErrType
		case n.kind == api.TypeCon && count != n.arity:
			return api.ErrArity
		}
	}
	return api.OK
}

// P9.1: Formed agrees with the lists of nodes; type variables and rigid constants
// have no errors.
func TestFormedNodes(t *testing.T) {
	l := datasOf(t, sampleDatas)
	counts := map[string]int{"Int": 0, "->": 2, "E": 0, "T": 1, "P": 2}
	found := map[api.Errno]int{}
	for _, names := range [][]string{nil, {"a"}, {"b", "a"}, {"c", "b", "a"}} {
		for _, x := range append(samples(), strange()...) {
			want := firstError(preorder(x), counts, names)
			if got := Formed(l, x, names); got != want {
				t.Fatalf("Formed(%+v, %v) = %d; want %d", x, names, got, want)
			}
			found[want]++
		}
	}
	for _, err := range []api.Errno{api.OK, api.ErrType, api.ErrArity} {
		if found[err] < 100 {
			t.Errorf("only %d samples have the error %d", found[err], err)
		}
	}
}

// P9.1: function types that have not two arguments.
func TestFormedArrow(t *testing.T) {
	for count := range 5 {
		want := api.ErrArity
		if count == 2 {
			want = api.OK
		}
		x := con("->", slices.Repeat([]api.Type{types.Int()}, count)...)
		if got := Formed(nil, x, nil); got != want {
			t.Errorf("a function type of %d: %d", count, got)
		}
		if got := Formed(datasOf(t, "data L a = L;"), con("L", x), nil); got != want {
			t.Errorf("a function type of %d in another type: %d", count, got)
		}
	}
}

// P9.2: the first error of declarations that are read.
func TestCheck(t *testing.T) {
	for _, c := range []struct {
		src string
		err api.Errno
		pos int
	}{
		{"", api.OK, 0},
		{"let x = 1;", api.OK, 0},
		{"data E = E;", api.OK, 0},
		{"data List a = Nil | Cons a (List a);", api.OK, 0},
		{"data T = T; data U = U;", api.OK, 0},                                    // a constructor may have the name of a type
		{"data T = Int;", api.OK, 0},                                              // also of Int
		{"data T = U; data U = T;", api.OK, 0},                                    // and of another type
		{"data T a = A a; data U a = B a;", api.OK, 0},                            // parameters belong to one declaration
		{"data T a = A | B; data U = C (T U); data V b = D (U -> b);", api.OK, 0}, // parameters need not be used
		{"data T = A U; data U = B T;", api.OK, 0},                                // declarations may refer to each other
		{"data T a = A (U a a); data U a b = B (T b) (T (U a Int));", api.OK, 0},
		{"data T a b c d = A a b c d | B (T d c b a) (a -> b) Int (T a a a a);", api.OK, 0},
		{"data T a = A (T (T a)) ((T a -> a) -> Int);", api.OK, 0},
		// names of types
		{" data Int = A;", api.ErrDuplicate, 1},
		{"data T = A; data Int a = B;", api.ErrDuplicate, 12},
		{"data T = A; data T = B;", api.ErrDuplicate, 12},
		{"data T = A; data T a = B a;", api.ErrDuplicate, 12},
		{"data T = A; data U = B; data T = C;", api.ErrDuplicate, 24},
		{"data T = A; data T = B; data T = C;", api.ErrDuplicate, 12},
		{"data T = A; data U = B; data U = C; data T = D;", api.ErrDuplicate, 24},
		// parameters
		{" data T a a = A;", api.ErrDuplicate, 1},
		{"data T a b a = A;", api.ErrDuplicate, 0},
		{"data T a b b = A;", api.ErrDuplicate, 0},
		{"data T a b c a = A;", api.ErrDuplicate, 0},
		{"data T a = A; data U b c b = B;", api.ErrDuplicate, 14},
		// constructors
		{"data T = A | A;", api.ErrDuplicate, 13},
		{"data T = A | B | A;", api.ErrDuplicate, 17},
		{"data T = A | B | B;", api.ErrDuplicate, 17},
		{"data T = A | B | B | A;", api.ErrDuplicate, 17},
		{"data T = A Int | A;", api.ErrDuplicate, 17},
		{"data T = A; data U = A;", api.ErrDuplicate, 21},
		{"data T = A | B; data U = C | D; data V = E | B;", api.ErrDuplicate, 45},
		// A declaration comes before its constructors, and these before the next one.
		{"data T a a = A | A;", api.ErrDuplicate, 0},
		{"data Int = A | A;", api.ErrDuplicate, 0},
		{"data T = A | A; data T = B;", api.ErrDuplicate, 13},
		{"data T = A | A; data U a a = B;", api.ErrDuplicate, 13},
		{"data T = A; data T = A;", api.ErrDuplicate, 12},
		{"data T = A; data U = A; data Int = B;", api.ErrDuplicate, 21},
		// types
		{"data T = A a;", api.ErrType, 9},
		{"data T a = A b;", api.ErrType, 11},
		{"data T = A | B U;", api.ErrType, 13},
		{"data T = A B | B;", api.ErrType, 9}, // a constructor is no type
		{"data T a = A a; data U = B a;", api.ErrType, 25},
		{"data U = B a; data T a = A a;", api.ErrType, 9},
		{"data T a = A Int a (T a) b;", api.ErrType, 11},
		{"data T a = A (a -> b);", api.ErrType, 11},
		{"data T a = A (T (T U));", api.ErrType, 11},
		{"data T = A T; data U = B | C T T | D T U V;", api.ErrType, 35},
		// arities
		{"data T = A (T T);", api.ErrArity, 9},
		{"data T a = A T;", api.ErrArity, 11},
		{"data T a = A (T a a);", api.ErrArity, 11},
		{"data T a b = A | B (T a);", api.ErrArity, 17},
		{"data T = A (Int Int);", api.ErrArity, 9},
		{"data T = A U; data U a = B;", api.ErrArity, 9},
		{"data T a = A; data U = B (T U) Int | C (U -> T);", api.ErrArity, 37},
		// the first field, the first constructor and the first declaration with an error
		{"data T = A a (T T);", api.ErrType, 9},
		{"data T = A (T T) a;", api.ErrArity, 9},
		{"data T = A Int (T T) a | B a;", api.ErrArity, 9},
		{"data T = A | B a | C (T T);", api.ErrType, 13},
		{"data T = A | B (T T) | C a;", api.ErrArity, 13},
		{"data T = A (T T); data U = B a;", api.ErrArity, 9},
		{"data T = A U; data V = B (T T);", api.ErrType, 9},
		// names that are declared twice come before types
		{"data T = A U; data T = B;", api.ErrDuplicate, 14},
		{"data T = A U | A;", api.ErrDuplicate, 15},
		{"data T = A a; data U = B; data V = C | A;", api.ErrDuplicate, 39},
		{"data T = A (T T); data U a b a = B;", api.ErrDuplicate, 18},
		{"data T a a = A U;", api.ErrDuplicate, 0},
	} {
		if got := Check(datasOf(t, c.src)); got != (api.Fault{Err: c.err, Pos: c.pos}) {
			t.Errorf("Check(%s) = %+v; want %d at %d", c.src, got, c.err, c.pos)
		}
	}
}

// P9.2: what Check finds at one place of a program depends on Formed alone, and
// the error is at the constructor.
func TestCheckFields(t *testing.T) {
	l := datasOf(t, sampleDatas)
	found := map[api.Errno]int{}
	for i, x := range samples() {
		fields := slices.Repeat([]api.Type{types.Int()}, i%3)
		last := api.Data{Pos: 70, Name: "D", Params: []string{"b", "a"}, Constructors: []api.Constructor{
			{Pos: 80, Name: "First", Fields: []api.Type{name("a")}}, {Pos: 90, Name: "Second", Fields: append(fields, x, name("b"))}, {Pos: 100, Name: "Third"},
		}}
		datas := slices.Insert(slices.Clone(l), i%4, last)
		var want api.Fault
		if err := Formed(datas, x, last.Params); err != api.OK {
			want = api.Fault{Err: err, Pos: 90}
		}
		if got := Check(datas); got != want {
			t.Fatalf("Check with the field %+v = %+v; want %+v", x, got, want)
		}
		found[want.Err]++
	}
	if len(found) != 3 {
		t.Errorf("the samples have the errors %v", found)
	}
}

// P9.2: the positions are those of the declarations, whatever their order.
func TestCheckPositions(t *testing.T) {
	a := api.Constructor{Pos: 7, Name: "A"}
	for _, c := range []struct {
		datas []api.Data
		want  api.Fault
	}{
		{[]api.Data{{Pos: 9, Name: "T"}, {Pos: 3, Name: "T"}}, api.Fault{Err: api.ErrDuplicate, Pos: 3}},
		{[]api.Data{{Pos: 9, Name: "T", Constructors: []api.Constructor{a, {Pos: 2, Name: "A"}}}}, api.Fault{Err: api.ErrDuplicate, Pos: 2}},
		{[]api.Data{{Pos: 9, Name: "T", Constructors: []api.Constructor{a, {Pos: 2, Name: "B", Fields: []api.Type{name("a")}}}}}, api.Fault{Err: api.ErrType, Pos: 2}},
		{[]api.Data{{Pos: 0, Name: "T", Constructors: []api.Constructor{a, {Pos: 0, Name: "B", Fields: []api.Type{con("T", con("T"))}}}}}, api.Fault{Err: api.ErrArity, Pos: 0}},
		{[]api.Data{{Pos: 5, Name: "T", Constructors: []api.Constructor{a}}, {Pos: 6, Name: "U"}}, api.Fault{}}, // no error has no position
		{nil, api.Fault{}},
		{[]api.Data{}, api.Fault{}},
	} {
		if got := Check(c.datas); got != c.want {
			t.Errorf("Check(%+v) = %+v; want %+v", c.datas, got, c.want)
		}
	}
}

// P9.2: many declarations, as none that is read has; each call returns the same.
func TestCheckMany(t *testing.T) {
	const count = 20000
	var l []api.Data
	for i := range count {
		s := strconv.Itoa(i)
		l = append(l, api.Data{Pos: 2 * i, Name: "T" + s, Params: []string{"a" + s, "a"}, Constructors: []api.Constructor{
			{Pos: 2*i + 1, Name: "C" + s, Fields: []api.Type{con("T"+strconv.Itoa(count-1-i), name("a"), name("a"+s))}},
		}})
	}
	if got := Check(l); got != (api.Fault{}) {
		t.Errorf("Check = %+v", got)
	}
	l[count-1].Constructors[0].Name = "C7"
	for range 3 {
		if got := Check(l); got != (api.Fault{Err: api.ErrDuplicate, Pos: 2*count - 1}) {
			t.Errorf("Check = %+v", got)
		}
	}
	if i, k, found := Find(l, "C19998"); i != 19998 || k != 0 || !found {
		t.Errorf("Find = %d, %d, %v", i, k, found)
	}
}

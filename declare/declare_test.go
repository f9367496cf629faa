package declare

import (
	"slices"
	"strconv"
	"strings"
	"testing"

	"typedholes/api"
	"typedholes/show"
	"typedholes/types"
)

// P9.3: Find returns the first constructor of a name.
func TestFind(t *testing.T) {
	l := datasOf(t, "data T = A | B a; data U a = C | D a | E; data A = F; data V = B | G | C | G;")
	for _, c := range []struct {
		con   string
		i, k  int
		found bool
	}{
		{"A", 0, 0, true}, {"B", 0, 1, true}, {"C", 1, 0, true}, {"D", 1, 1, true}, {"E", 1, 2, true}, {"F", 2, 0, true}, {"G", 3, 1, true},
		{"T", 0, 0, false}, {"U", 0, 0, false}, {"V", 0, 0, false}, {"Int", 0, 0, false}, {"", 0, 0, false}, {"a", 0, 0, false}, {"AA", 0, 0, false}, {"->", 0, 0, false},
	} {
		if i, k, found := Find(l, c.con); i != c.i || k != c.k || found != c.found {
			t.Errorf("Find(%s) = %d, %d, %v", c.con, i, k, found)
		}
	}
	for _, l := range [][]api.Data{nil, {}, {{Name: "A"}}} {
		if i, k, found := Find(l, "A"); i != 0 || k != 0 || found {
			t.Errorf("Find in %+v = %d, %d, %v", l, i, k, found)
		}
	}
}

// P9.3: Bind takes the first index of a name.
func TestBind(t *testing.T) {
	for _, c := range []struct {
		src   string
		names string
		want  api.Type
	}{
		{"a", "a", bnd(0)},
		{"a", "b a", bnd(1)},
		{"a", "b c d e f a", bnd(5)},
		{"a", "b a c a", bnd(1)},
		{"a", "a a", bnd(0)},
		{"a", "", name("a")},
		{"a", "b aa A", name("a")},
		{"A", "A", con("A")},
		{"Int", "Int", types.Int()},
		{"a -> b -> a", "b a", con("->", bnd(1), con("->", bnd(0), bnd(1)))},
		{"(a -> c) -> List b Int", "a b", con("->", con("->", bnd(0), name("c")), con("List", bnd(1), types.Int()))},
		{"Q a b (Q b a a b) c", "c b a", con("Q", bnd(2), bnd(1), con("Q", bnd(1), bnd(2), bnd(2), bnd(1)), bnd(0))},
	} {
		if got := Bind(typeOf(t, c.src), strings.Fields(c.names)); !types.Equal(got, c.want) {
			t.Errorf("Bind(%s, %s) = %+v; want %+v", c.src, c.names, got, c.want)
		}
	}
	mixed := con("Q", bnd(3), types.Var(0), rigid(2, 1), name("b"))
	if got := Bind(mixed, []string{"a", "b"}); !types.Equal(got, con("Q", bnd(3), types.Var(0), rigid(2, 1), bnd(1))) {
		t.Errorf("Bind = %+v", got)
	}
}

// P9.3: Bind agrees with the nodes of the types.
func TestBindNodes(t *testing.T) {
	for _, names := range [][]string{nil, {"c"}, {"b", "a"}, {"b", "b", "z", "c", "a", "b"}} {
		for _, x := range samples() {
			want := preorder(x)
			for i, n := range want {
				if id := slices.Index(names, n.name); n.kind == api.TypeName && id >= 0 {
					want[i] = node{kind: api.TypeBound, id: id}
				}
			}
			if got := Bind(x, names); !slices.Equal(preorder(got), want) {
				t.Fatalf("Bind(%+v, %v) = %+v", x, names, got)
			}
		}
	}
}

// P9.3: Names in the order in which they occur first, each once.
func TestNames(t *testing.T) {
	for _, c := range []struct{ src, want string }{
		{"a", "a"}, {"Int", ""}, {"T", ""}, {"T Int (U -> V)", ""}, {"a -> a", "a"}, {"b -> a", "b a"}, {"a -> b -> a", "a b"}, {"(c -> a) -> b -> c", "c a b"}, {"Q z (T y x) z w", "z y x w"}, {"T (T (T a)) -> b", "a b"}, {"c -> P a b -> a", "c a b"},
		{"e -> d -> c -> b -> a -> e", "e d c b a"},
	} {
		if got := Names(typeOf(t, c.src)); !slices.Equal(got, strings.Fields(c.want)) {
			t.Errorf("Names(%s) = %v; want %s", c.src, got, c.want)
		}
	}
	if got := Names(con("Q", types.Var(1), bnd(2), rigid(0, 3), name("x"))); !slices.Equal(got, []string{"x"}) {
		t.Errorf("Names = %v", got)
	}
	for _, x := range samples() {
		var want []string
		for _, n := range preorder(x) {
			if n.kind == api.TypeName && !slices.Contains(want, n.name) {
				want = append(want, n.name)
			}
		}
		got := Names(x)
		if !slices.Equal(got, want) {
			t.Fatalf("Names(%+v) = %v; want %v", x, got, want)
		}
		if rest := Names(Bind(x, got)); len(rest) > 0 {
			t.Fatalf("Bind(%+v, %v) leaves %v", x, got, rest)
		}
	}
}

const constructors = "data List a = Nil | Cons a (List a); data E = E | F Int E; data P a b = P b (P a a) (a -> Int) | Q (a -> b) | R; data D d c b a = D a b c d;"

// P9.4: the schemes of constructors.
func TestConstructor(t *testing.T) {
	l := datasOf(t, constructors)
	for _, c := range []struct {
		con   string
		count int
		want  string
	}{
		{"Cons", 1, "a -> List a -> List a"}, // the chapter's example
		{"Nil", 1, "List a"},
		{"E", 0, "E"},
		{"F", 0, "Int -> E -> E"},
		{"P", 2, "b -> P a a -> (a -> Int) -> P a b"},
		{"Q", 2, "(a -> b) -> P a b"},
		{"R", 2, "P a b"},
		{"D", 4, "d -> c -> b -> a -> D a b c d"}, // the letters number the parameters
	} {
		s, found := Constructor(l, c.con)
		if !found || s.Count != c.count || show.Scheme(s) != c.want {
			t.Errorf("Constructor(%s) = %+v, %v; want %s", c.con, s, found, c.want)
		}
		if names := Names(s.Type); len(names) > 0 || len(types.Vars(s.Type)) > 0 {
			t.Errorf("Constructor(%s) has the names %v", c.con, names)
		}
	}
	want := con("->", bnd(0), con("->", con("List", bnd(0)), con("List", bnd(0))))
	if s, _ := Constructor(l, "Cons"); !types.Equal(s.Type, want) {
		t.Errorf("Constructor(Cons) = %+v; want %+v", s.Type, want)
	}
	for _, con := range []string{"List", "Int", "", "cons", "->"} {
		if s, found := Constructor(l, con); found || s.Count != 0 || !types.Equal(s.Type, api.Type{}) {
			t.Errorf("Constructor(%s) = %+v, %v", con, s, found)
		}
	}
	if s, found := Constructor(nil, "A"); found || s.Count != 0 || s.Type.Kind != 0 {
		t.Errorf("Constructor of no declarations = %+v, %v", s, found)
	}
}

// P9.4: the types of fields, with arguments.
func TestFields(t *testing.T) {
	l := datasOf(t, constructors)
	for _, c := range []struct {
		con  string
		args []api.Type
		want string
	}{
		{"Nil", []api.Type{types.Int()}, ""},
		{"Cons", []api.Type{types.Int()}, "Int, List Int"},
		{"Cons", []api.Type{con("List", types.Var(1))}, "List _b, List (List _b)"},
		{"E", nil, ""},
		{"E", []api.Type{}, ""},
		{"F", nil, "Int, E"},
		{"P", []api.Type{types.Int(), types.Var(4)}, "_e, P Int Int, Int -> Int"},
		{"P", []api.Type{types.Var(4), types.Int()}, "Int, P _e _e, _e -> Int"},
		{"Q", []api.Type{types.Arrow(types.Int(), rigid(0, 0)), rigid(-1, 1)}, "(Int -> 'a) -> 'b"},
		{"D", []api.Type{types.Var(0), types.Var(1), types.Var(2), types.Var(3)}, "_d, _c, _b, _a"},
		// All are replaced at once, and names in args are not those of the declaration.
		{"P", []api.Type{bnd(1), bnd(0)}, "a, P b b, b -> Int"},
		{"P", []api.Type{name("b"), name("a")}, "a, P b b, b -> Int"},
		{"Q", []api.Type{con("List", name("b")), con("E")}, "List b -> E"},
		{"Q", []api.Type{con("P", bnd(1), bnd(0)), con("List", bnd(0))}, "P b a -> List a"},
	} {
		fields, found := Fields(l, c.con, c.args)
		var texts []string
		for _, field := range fields {
			texts = append(texts, show.Type(field))
		}
		if got := strings.Join(texts, ", "); !found || got != c.want {
			t.Errorf("Fields(%s, %+v) = %s, %v; want %s", c.con, c.args, got, found, c.want)
		}
	}
}

// P9.4: no fields without the constructor, or with another number of arguments.
func TestFieldsNone(t *testing.T) {
	l := datasOf(t, constructors)
	for con, count := range map[string]int{"Nil": 1, "Cons": 1, "E": 0, "F": 0, "P": 2, "R": 2, "D": 4, "List": -1, "Int": -1, "": -1, "nil": -1} {
		for given := range 7 {
			fields, found := Fields(l, con, slices.Repeat([]api.Type{types.Int()}, given))
			if found != (given == count) || !found && len(fields) > 0 {
				t.Errorf("Fields(%s) with %d arguments = %+v, %v", con, given, fields, found)
			}
		}
	}
	if fields, found := Fields(nil, "A", nil); found || len(fields) > 0 {
		t.Errorf("Fields of no declarations = %+v, %v", fields, found)
	}
}

// P9.3 and P9.4: of constructors of the same name, the first one counts.
func TestFirstConstructor(t *testing.T) {
	l := datasOf(t, "data T a = A a | A; data U a b = A a b | B b a; data V = B;")
	if s, _ := Constructor(l, "A"); s.Count != 1 || show.Scheme(s) != "a -> T a" {
		t.Errorf("Constructor(A) = %+v", s)
	}
	if s, _ := Constructor(l, "B"); s.Count != 2 || show.Scheme(s) != "b -> a -> U a b" {
		t.Errorf("Constructor(B) = %+v", s)
	}
	if fields, found := Fields(l, "A", []api.Type{types.Int()}); !found || len(fields) != 1 {
		t.Errorf("Fields(A) = %+v, %v", fields, found)
	}
	if fields, found := Fields(l, "B", nil); found || len(fields) != 0 {
		t.Errorf("Fields(B) without arguments = %+v, %v", fields, found)
	}
}

// declarations returns declarations that Check accepts, with fields of all kinds.
func declarations() []api.Data {
	l := []api.Data{
		{Name: "E", Constructors: []api.Constructor{{Name: "E"}}},
		{Name: "T", Params: []string{"a"}, Constructors: []api.Constructor{{Name: "T", Fields: []api.Type{name("a")}}}},
		{Name: "P", Params: []string{"a", "b"}, Constructors: []api.Constructor{{Name: "P", Fields: []api.Type{name("a"), name("b")}}}},
	}
	all := api.Data{Name: "All", Params: []string{"c", "b", "a"}}
	for i, x := range grown([]api.Type{name("a"), name("b"), name("c"), types.Int(), con("E"), con("All", name("b"), name("a"), name("a"))}, 2) {
		if Formed(append(l, all), x, all.Params) == api.OK {
			fields := slices.Repeat([]api.Type{con("T", name("a")), x, types.Int()}, 2)[i%3 : i%3+i%5]
			all.Constructors = append(all.Constructors, api.Constructor{Name: "A" + strconv.Itoa(i), Fields: fields})
		}
	}
	return append(l, all)
}

// P9.5: the fields of declarations without an error are valid, and those of a
// constructor are the arguments of its scheme.
func TestConsequences(t *testing.T) {
	l := declarations()
	if f := Check(l); f.Err != api.OK || len(l[3].Constructors) < 100 {
		t.Fatalf("Check = %+v with %d constructors", f, len(l[3].Constructors))
	}
	args := []api.Type{types.Arrow(types.Var(1000000), bnd(2)), con("P", rigid(-1, 0), name("a")), con("T", bnd(0))}
	for _, data := range l {
		for _, constructor := range data.Constructors {
			given := args[:len(data.Params)]
			fields, found := Fields(l, constructor.Name, given)
			if !found || len(fields) != len(constructor.Fields) || slices.ContainsFunc(fields, func(x api.Type) bool { return !types.Valid(x) }) {
				t.Fatalf("Fields(%s) = %+v, %v", constructor.Name, fields, found)
			}
			s, found := Constructor(l, constructor.Name)
			if !found || s.Count != len(data.Params) || !types.Valid(s.Type) {
				t.Fatalf("Constructor(%s) = %+v, %v", constructor.Name, s, found)
			}
			rest := types.Open(s.Type, given)
			for i, field := range fields {
				from, to, is := types.IsArrow(rest)
				if !is || !types.Equal(from, field) {
					t.Fatalf("Constructor(%s) = %+v has not the field %d: %+v", constructor.Name, s, i, field)
				}
				rest = to
			}
			if !types.Equal(rest, types.Con(data.Name, given...)) {
				t.Fatalf("Constructor(%s) = %+v has another result", constructor.Name, s)
			}
		}
	}
}

// P9.5: there are as many function types before the result as fields, also where
// fields are function types.
func TestFunctionFields(t *testing.T) {
	l := datasOf(t, "data F a = A (a -> a) | B (a -> F a) (a -> a -> a) a | C;")
	for con, want := range map[string]string{"A": "(a -> a) -> F a", "B": "(a -> F a) -> (a -> a -> a) -> a -> F a", "C": "F a"} {
		if s, _ := Constructor(l, con); show.Scheme(s) != want {
			t.Errorf("Constructor(%s) = %s; want %s", con, show.Scheme(s), want)
		}
	}
}

// P0.4: no function changes its arguments, nor their unused capacity; and what is
// appended to a result changes no argument.
func TestArgumentsStay(t *testing.T) {
	mark := api.Constructor{Name: "Mark"}
	cons := spareType(con("List", name("a")))
	nested := spareType(con("P", con("List", name("b")), name("a")))
	l := spare([]api.Data{
		{Name: "List", Params: spare([]string{"a"}, "mark"), Constructors: spare([]api.Constructor{{Name: "Nil"}, {Name: "Cons", Fields: spare([]api.Type{name("a"), cons}, name("mark"))}}, mark)},
		{Name: "P", Params: spare([]string{"a", "b"}, "mark"), Constructors: spare([]api.Constructor{{Name: "P", Fields: spare([]api.Type{nested}, name("mark"))}}, mark)},
	}, api.Data{Name: "Mark"})
	names := spare([]string{"b", "a"}, "mark")
	args := spare([]api.Type{spareType(con("List", bnd(0))), types.Int()}, name("mark"))
	for range 3 {
		s, _ := Constructor(l, "P")
		fields, _ := Fields(l, "P", args)
		few, _ := Fields(l, "Cons", args[:1])
		bind, found := Bind(nested, names), Names(nested)
		if Check(l) != (api.Fault{}) || Formed(l, nested, names) != api.OK || show.Scheme(s) != "P (List b) a -> P a b" || len(fields) != 1 || show.Type(fields[0]) != "P (List Int) (List a)" ||
			len(few) != 2 || show.Type(few[1]) != "List (List a)" || show.Type(bind) != "P (List a) b" || !slices.Equal(found, []string{"b", "a"}) {
			t.Fatalf("%+v, %+v, %+v, %+v, %v", s, fields, few, bind, found)
		}
		s.Type.Args, bind.Args = append(s.Type.Args, types.Int()), append(bind.Args, types.Int())
		_, _, _ = append(fields, types.Int()), append(few, types.Int()), append(found, "z")
	}
	if !intact(cons) || !intact(nested) || !intact(args[0]) || !types.Equal(args[:3][2], name("mark")) || names[:3][2] != "mark" || l[:3][2].Name != "Mark" {
		t.Error("an argument has changed")
	}
	for _, data := range l {
		count := len(data.Constructors)
		fields := data.Constructors[count-1].Fields
		if data.Params[:len(data.Params)+1][len(data.Params)] != "mark" || data.Constructors[:count+1][count].Name != "Mark" || !types.Equal(fields[:len(fields)+1][len(fields)], name("mark")) {
			t.Errorf("the declaration of %s has changed", data.Name)
		}
	}
}

// P0.1: no function panics for arguments that are not valid.
func TestAllArguments(t *testing.T) {
	l := append(strange(), deep(65000, name("a")), deep(65000, bnd(0)))
	for i, x := range l {
		y := l[(i+1)%len(l)]
		datas := []api.Data{
			{}, {Pos: -1, Name: "->", Params: []string{"", "", "a"}}, {Name: "Int", Constructors: []api.Constructor{{}, {Name: "A", Fields: []api.Type{x, y, x}}}},
			{Name: x.Name, Params: slices.Repeat([]string{"a"}, 100), Constructors: []api.Constructor{{Pos: -7, Name: "B", Fields: slices.Repeat([]api.Type{y}, 20)}}},
		}
		Check(datas)
		Check(datas[3:])
		Check([]api.Data{{Name: "T", Params: []string{"a"}, Constructors: datas[3].Constructors}})
		for _, names := range [][]string{nil, {""}, {"a", "", "a"}} {
			Formed(datas, x, names)
			Bind(x, names)
			Constructor(datas, strings.Join(names, ""))
		}
		Names(x)
		for _, con := range []string{"", "A", "B"} {
			Find(datas, con)
			Constructor(datas, con)
			Fields(datas, con, nil)
			Fields(datas, con, []api.Type{x, y, {}})
			Fields(datas, con, slices.Repeat([]api.Type{x}, 100))
		}
	}
}

// P0.8: types with many levels are read to their end.
func TestNested(t *testing.T) {
	x := deep(65000, name("b"))
	l := []api.Data{{Name: "T", Params: []string{"b"}, Constructors: []api.Constructor{{Pos: 5, Name: "A", Fields: []api.Type{x}}}}}
	if got := Names(x); !slices.Equal(got, []string{"b"}) {
		t.Errorf("Names = %v", got)
	}
	if got := Bind(x, []string{"a", "b"}); !types.Equal(got, deep(65000, bnd(1))) {
		t.Error("Bind")
	}
	if got := Check(l); got != (api.Fault{}) {
		t.Errorf("Check = %+v", got)
	}
	if fields, found := Fields(l, "A", []api.Type{types.Int()}); !found || !types.Equal(fields[0], deep(65000, types.Int())) {
		t.Error("Fields")
	}
	l[0].Params = []string{"a"}
	if got := Check(l); got != (api.Fault{Err: api.ErrType, Pos: 5}) {
		t.Errorf("Check = %+v", got)
	}
}

package types

import (
	"cmp"
	"math"
	"regexp"
	"slices"
	"strings"
	"testing"

	"typedholes/api"
)

var (
	lowerPattern   = regexp.MustCompile(`^[a-z][a-zA-Z0-9_]{0,11}$`)
	upperPattern   = regexp.MustCompile(`^[A-Z][a-zA-Z0-9_]{0,11}$`)
	keywordPattern = regexp.MustCompile(`^(data|let|rec|in|case|of|end)$`)
)

func bound(id int) api.Type { return api.Type{Kind: api.TypeBound, Id: id} }

func rigid(home, id int) api.Type { return api.Type{Kind: api.TypeRigid, Home: home, Id: id} }

func name(s string) api.Type { return api.Type{Kind: api.TypeName, Name: s} }

func con(name string, args ...api.Type) api.Type {
	return api.Type{Kind: api.TypeCon, Name: name, Args: args}
}

// node is a node of a type, with the number of its arguments alone.
type node struct {
	kind     int
	name     string
	id, home int
	arity    int
}

// preorder lists the nodes of types from left to right. Since each node has its
// arity, the list determines the types. It is the tests' second way to look at
// types, and has no recursion.
func preorder(l ...api.Type) []node {
	var out []node
	left := slices.Clone(l)
	slices.Reverse(left)
	for len(left) > 0 {
		t := left[len(left)-1]
		left = left[:len(left)-1]
		out = append(out, node{t.Kind, t.Name, t.Id, t.Home, len(t.Args)})
		for _, arg := range slices.Backward(t.Args) {
			left = append(left, arg)
		}
	}
	return out
}

// preorders lists the nodes of each type.
func preorders(l []api.Type) [][]node {
	var out [][]node
	for _, t := range l {
		out = append(out, preorder(t))
	}
	return out
}

func compareNodes(a, b node) int {
	return cmp.Or(cmp.Compare(a.kind, b.kind), strings.Compare(a.name, b.name), cmp.Compare(a.id, b.id), cmp.Compare(a.home, b.home), cmp.Compare(a.arity, b.arity))
}

// same reports whether two types have the same nodes.
func same(a, b api.Type) bool { return slices.Equal(preorder(a), preorder(b)) }

// samples returns valid types of all kinds and of all depths up to 2.
func samples() []api.Type {
	leaves := []api.Type{Var(0), Var(1), bound(0), bound(1), rigid(-1, 0), rigid(2, 1), Int(), con("T"), name("a")}
	out := slices.Clone(leaves)
	level := leaves
	for range 2 {
		var next []api.Type
		for i, a := range level {
			next = append(next, con("L", a))
			for k, b := range leaves {
				if (i+k)%3 == 0 {
					next = append(next, con("->", a, b), con("->", b, a), con("P", b, a))
				}
			}
		}
		out = append(out, next...)
		level = next
	}
	return append(out, con("Q", Var(2), Var(1), Var(2), Var(0)), con("Q", con("->", rigid(1, 0), rigid(0, 1)), rigid(0, 0), rigid(1, 0)))
}

// strange returns types that are not valid.
func strange() []api.Type {
	full := api.Type{Kind: api.TypeVar, Name: "x", Id: -1, Home: 7, Args: []api.Type{Var(0), {}}}
	return []api.Type{
		{}, {Kind: -1}, {Kind: 6, Args: []api.Type{Var(0)}}, {Kind: math.MaxInt}, {Kind: math.MinInt, Id: math.MinInt},
		Var(-1), Var(math.MaxInt), bound(-1), bound(math.MinInt), bound(math.MaxInt), rigid(-2, 0), rigid(math.MinInt, math.MaxInt),
		con("->"), con("->", Var(0)), con("->", Var(0), Var(1), Var(2)), con("Int", Var(0)), con(""), con("\xff"), name(""), name("X"),
		full, con("T", full), con("->", full, api.Type{}), con("T", slices.Repeat([]api.Type{Int()}, 50)...),
	}
}

// deep returns a type of a depth.
func deep(depth int, leaf api.Type) api.Type {
	for i := range depth {
		if i%2 == 0 {
			leaf = con("->", Int(), leaf)
		} else {
			leaf = con("L", leaf)
		}
	}
	return leaf
}

// spare returns t with lists of arguments that have capacity left, which is
// filled with a mark.
func spare(t api.Type) api.Type {
	if len(t.Args) == 0 {
		return t
	}
	var args []api.Type
	for _, arg := range t.Args {
		args = append(args, spare(arg))
	}
	t.Args = append(args, name("mark"), name("mark"))[:len(args)]
	return t
}

// intact reports whether the marks that spare has left are still there.
func intact(t api.Type) bool {
	if len(t.Args) == 0 {
		return true
	}
	for _, mark := range t.Args[len(t.Args) : len(t.Args)+2] {
		if !same(mark, name("mark")) {
			return false
		}
	}
	return !slices.ContainsFunc(t.Args, func(arg api.Type) bool { return !intact(arg) })
}

// P3.1: what is built has these fields and no others.
func TestBuilt(t *testing.T) {
	a, b := Var(3), rigid(1, 2)
	for _, c := range []struct {
		name string
		got  api.Type
		want []node
	}{
		{"Int", Int(), []node{{api.TypeCon, "Int", 0, 0, 0}}},
		{"Var", Var(3), []node{{api.TypeVar, "", 3, 0, 0}}},
		{"Var 0", Var(0), []node{{api.TypeVar, "", 0, 0, 0}}},
		{"Con without arguments", Con("T"), []node{{api.TypeCon, "T", 0, 0, 0}}},
		{"Con", Con("T", a, b, a), []node{{api.TypeCon, "T", 0, 0, 3}, {api.TypeVar, "", 3, 0, 0}, {api.TypeRigid, "", 2, 1, 0}, {api.TypeVar, "", 3, 0, 0}}},
		{"Con of a list", Con("P", []api.Type{b, a}...), []node{{api.TypeCon, "P", 0, 0, 2}, {api.TypeRigid, "", 2, 1, 0}, {api.TypeVar, "", 3, 0, 0}}},
		{"Con ->", Con("->", a, b), preorder(Arrow(a, b))},
		{"Arrow", Arrow(a, b), []node{{api.TypeCon, "->", 0, 0, 2}, {api.TypeVar, "", 3, 0, 0}, {api.TypeRigid, "", 2, 1, 0}}},
		{"Arrow of Arrow", Arrow(Arrow(a, b), Int()), []node{{api.TypeCon, "->", 0, 0, 2}, {api.TypeCon, "->", 0, 0, 2}, {api.TypeVar, "", 3, 0, 0}, {api.TypeRigid, "", 2, 1, 0}, {api.TypeCon, "Int", 0, 0, 0}}},
	} {
		if got := preorder(c.got); !slices.Equal(got, c.want) {
			t.Errorf("%s is %v; want %v", c.name, got, c.want)
		}
	}
}

// P0.4 for P3.1: a list that was passed to Con stays the caller's.
func TestConKeepsNoList(t *testing.T) {
	l := []api.Type{Var(0), Var(1), Var(2)}
	x := Con("T", l[:2]...)
	x.Args = append(x.Args, Int())
	if !same(l[2], Var(2)) {
		t.Error("appending to the arguments of a Con changes the list that they came from")
	}
	l[0] = Int()
	if !same(x, con("T", Var(0), Var(1), Int())) {
		t.Errorf("a Con follows the list that its arguments came from: %+v", x)
	}
}

// P3.1: IsArrow of function types, and of what is none.
func TestIsArrow(t *testing.T) {
	for _, a := range samples() {
		from, to, is := IsArrow(Arrow(a, Var(9)))
		if !is || !same(from, a) || !same(to, Var(9)) {
			t.Fatalf("IsArrow of the function from %+v = %+v, %+v, %v", a, from, to, is)
		}
	}
	for _, x := range []api.Type{
		{}, Int(), Var(0), con("T", Var(0), Var(1)), con("Arrow", Var(0), Var(1)), con("", Var(0), Var(1)),
		con("->"), con("->", Var(0)), con("->", Var(0), Var(1), Var(2)),
		{Kind: api.TypeName, Name: "->", Args: []api.Type{Var(0), Var(1)}},
		{Kind: api.TypeRigid, Name: "->", Args: []api.Type{Var(0), Var(1)}},
		{Name: "->", Args: []api.Type{Var(0), Var(1)}},
	} {
		if from, to, is := IsArrow(x); is || !same(from, api.Type{}) || !same(to, api.Type{}) {
			t.Errorf("IsArrow(%+v) = %+v, %+v, %v", x, from, to, is)
		}
	}
}

// P3.1: the bounds of the numbers of valid types.
func TestValidNumbers(t *testing.T) {
	for _, id := range []int{math.MinInt, -1000000, -2, -1, 0, 1, 2, 999999, 1000000, 1000001, math.MaxInt32, math.MaxInt} {
		isId, isHome := 0 <= id && id <= 1000000, -1 <= id && id <= 1000000
		for _, c := range []struct {
			t    api.Type
			want bool
		}{
			{Var(id), isId},
			{bound(id), isId},
			{rigid(0, id), isId},
			{rigid(-1, id), isId},
			{rigid(id, 0), isHome},
			{rigid(id, 5), isHome},
			{rigid(id, id), isId},
			{con("T", Var(id)), isId},
		} {
			if got := Valid(c.t); got != c.want {
				t.Errorf("Valid(%+v) is %v", c.t, got)
			}
		}
	}
}

// P3.1: the fields that have a meaning for no type of a kind are zero.
func TestValidOtherFields(t *testing.T) {
	used := map[int]string{api.TypeVar: "Id", api.TypeBound: "Id", api.TypeRigid: "Id Home", api.TypeCon: "Args"}
	for _, x := range []api.Type{Var(1), bound(1), rigid(1, 1), con("T"), con("T", Var(0)), Int(), con("->", Int(), Int()), name("x")} {
		if !Valid(x) {
			t.Errorf("%+v is not valid", x)
		}
		for field, y := range map[string]api.Type{
			"Id":   {Kind: x.Kind, Name: x.Name, Id: 1, Home: x.Home, Args: x.Args},
			"Home": {Kind: x.Kind, Name: x.Name, Id: x.Id, Home: 1, Args: x.Args},
			"Args": {Kind: x.Kind, Name: x.Name, Id: x.Id, Home: x.Home, Args: append(slices.Clone(x.Args), Int())},
		} {
			want := strings.Contains(used[x.Kind], field) && x.Name != "Int" && x.Name != "->"
			if got := Valid(y); got != want {
				t.Errorf("Valid(%+v) is %v", y, got)
			}
		}
		if x.Name == "" {
			for _, s := range []string{"x", "X", "->", "Int"} {
				y := x
				y.Name = s
				if Valid(y) {
					t.Errorf("%+v is valid", y)
				}
			}
		}
		x.Args = slices.Concat(x.Args, []api.Type{})
		if !Valid(x) {
			t.Errorf("%+v with an empty list is not valid", x)
		}
	}
	for _, kind := range []int{math.MinInt, -1, 0, 6, 7, math.MaxInt} {
		for _, x := range samples() {
			x.Kind = kind
			if Valid(x) {
				t.Fatalf("%+v is valid", x)
			}
		}
	}
}

// P3.1: the names of valid constructors and of valid names.
func TestValidNames(t *testing.T) {
	parts := []string{"", "a", "Z", "0", "9", "_", " ", "->", "let", "é", "\xff", "@", "[", "`", "{", "/", ":", "abcdefghij"}
	texts := []string{"Int", "int", "INT", "Ints", "in", "data", "rec", "case", "of", "end", "Let", "lets", "In", "dataa",
		"abcdefghijkl", "ABCDEFGHIJKL", "abcdefghijklm", "ABCDEFGHIJKLM", strings.Repeat("x", 5000), strings.Repeat("X", 5000), "-", ">", "->>"}
	for _, a := range parts {
		for _, b := range parts {
			for _, c := range parts {
				texts = append(texts, a+b+c)
			}
		}
	}
	for i := range 256 {
		texts = append(texts, string([]byte{byte(i)}), string([]byte{'a', byte(i)}), string([]byte{'A', byte(i)}))
	}
	for _, s := range texts {
		if got := Valid(name(s)); got != (lowerPattern.MatchString(s) && !keywordPattern.MatchString(s)) {
			t.Errorf("Valid of the name %.20q is %v", s, got)
		}
		for count := range 7 {
			want := upperPattern.MatchString(s) && count <= 4
			switch s {
			case "->":
				want = count == 2
			case "Int":
				want = count == 0
			}
			if got := Valid(con(s, slices.Repeat([]api.Type{Var(0)}, count)...)); got != want {
				t.Errorf("Valid of the constructor %.20q with %d arguments is %v", s, count, got)
			}
		}
	}
}

// P3.1: a type is valid exactly if all types in it are.
func TestValidParts(t *testing.T) {
	for _, x := range samples() {
		if !Valid(x) {
			t.Errorf("%+v is not valid", x)
		}
	}
	for _, bad := range strange() {
		for _, x := range []api.Type{bad, con("L", bad), con("->", bad, Int()), con("->", Int(), bad), con("T", Int(), Int(), bad, Int()), con("T", Int(), Int(), Int(), bad), deep(50, bad)} {
			if Valid(x) {
				t.Errorf("%+v is valid", x)
			}
		}
	}
}

// P3.1: Equal compares all fields, also of types that are not valid.
func TestEqual(t *testing.T) {
	l := append(samples(), strange()...)
	nodes := preorders(l)
	for i, a := range l {
		for k, b := range l {
			if got := Equal(a, b); got != slices.Equal(nodes[i], nodes[k]) {
				t.Fatalf("Equal(%+v, %+v) is %v", a, b, got)
			}
		}
		if !Equal(a, spare(a)) {
			t.Fatalf("%+v is not equal to a copy", a)
		}
	}
	if !Equal(api.Type{Args: nil}, api.Type{Args: []api.Type{}}) || !Equal(con("T", con("U")), con("T", api.Type{Kind: api.TypeCon, Name: "U", Args: []api.Type{}})) {
		t.Error("empty lists are not equal")
	}
}

// P3.2: Nodes and Depth.
func TestSizes(t *testing.T) {
	a := Var(0)
	for _, c := range []struct {
		t            api.Type
		nodes, depth int
	}{
		{a, 1, 0},
		{Int(), 1, 0},
		{api.Type{}, 1, 0},
		{con("T"), 1, 0},
		{con("L", a), 2, 1},
		{con("->", a, a), 3, 1},
		{con("->", con("->", a, a), a), 5, 2}, // the deepest argument is the first one
		{con("->", a, con("->", a, a)), 5, 2}, // or the last one
		{con("T", a, con("L", con("L", con("L", a))), con("L", a), a), 9, 4},
		{con("T", a, a, a, a), 5, 1},
		{deep(1000, a), 1501, 1000},
	} {
		if nodes, depth := Nodes(c.t), Depth(c.t); nodes != c.nodes || depth != c.depth {
			t.Errorf("%+v has %d nodes and the depth %d; want %d and %d", c.t, nodes, depth, c.nodes, c.depth)
		}
	}
	for _, x := range append(samples(), strange()...) {
		depth := 0
		for _, arg := range x.Args {
			depth = max(depth, 1+Depth(arg))
		}
		if Nodes(x) != len(preorder(x)) || Depth(x) != depth {
			t.Fatalf("%+v has %d nodes and the depth %d", x, Nodes(x), Depth(x))
		}
	}
}

// P3.2: Vars in the order in which they occur first.
func TestVars(t *testing.T) {
	a, b, c := Var(3), Var(1), Var(2)
	for _, x := range []struct {
		l    []api.Type
		want []int
	}{
		{[]api.Type{con("->", con("->", a, b), a)}, []int{3, 1}}, // the chapter's example
		{nil, nil},
		{[]api.Type{Int(), bound(3), rigid(3, 3), name("a")}, nil},
		{[]api.Type{b, a, b, a}, []int{1, 3}},
		{[]api.Type{con("->", bound(1), rigid(0, 2)), Var(0)}, []int{0}},
		{[]api.Type{con("P", con("L", c), b), con("->", a, c), con("L", b)}, []int{2, 1, 3}},
		{[]api.Type{con("Q", con("L", con("L", a)), b, con("L", c), Var(1000000))}, []int{3, 1, 2, 1000000}},
	} {
		if got := Vars(x.l...); !slices.Equal(got, x.want) {
			t.Errorf("Vars(%+v) = %v; want %v", x.l, got, x.want)
		}
	}
}

// P3.2: Rigids in the order in which they occur first; both numbers tell them
// apart.
func TestRigids(t *testing.T) {
	r, s, u := rigid(2, 1), rigid(1, 2), rigid(-1, 1)
	for _, x := range []struct {
		l, want []api.Type
	}{
		{nil, nil},
		{[]api.Type{Int(), bound(1), Var(1), name("a")}, nil},
		{[]api.Type{con("P", r, s), r}, []api.Type{r, s}},
		{[]api.Type{con("->", con("->", u, r), u), s}, []api.Type{u, r, s}},
		{[]api.Type{rigid(0, 1), rigid(1, 1), rigid(1, 0), rigid(0, 0), rigid(0, 1)}, []api.Type{rigid(0, 1), rigid(1, 1), rigid(1, 0), rigid(0, 0)}},
		{[]api.Type{s, con("L", con("L", r)), con("->", Var(1), s)}, []api.Type{s, r}},
	} {
		if got := Rigids(x.l...); !slices.EqualFunc(got, x.want, same) {
			t.Errorf("Rigids(%+v) = %+v; want %+v", x.l, got, x.want)
		}
	}
}

// firstOfKind lists the nodes of a kind in the types, each once.
func firstOfKind(kind int, l ...api.Type) []node {
	var out []node
	for _, n := range preorder(l...) {
		if n.kind == kind && !slices.Contains(out, n) {
			out = append(out, n)
		}
	}
	return out
}

// P3.2: Vars, Rigids and Occurs agree with the nodes of the types.
func TestParts(t *testing.T) {
	l := samples()
	for i, x := range l {
		y := l[(i*7+3)%len(l)]
		var ids []int
		for _, n := range firstOfKind(api.TypeVar, x, y) {
			ids = append(ids, n.id)
		}
		if got := Vars(x, y); !slices.Equal(got, ids) {
			t.Fatalf("Vars(%+v, %+v) = %v; want %v", x, y, got, ids)
		}
		if got := Rigids(x, y); !slices.Equal(preorder(got...), firstOfKind(api.TypeRigid, x, y)) {
			t.Fatalf("Rigids(%+v, %+v) = %+v", x, y, got)
		}
		for id := -1; id <= 3; id++ {
			if got := Occurs(id, x); got != slices.Contains(firstOfKind(api.TypeVar, x), node{kind: api.TypeVar, id: id}) {
				t.Fatalf("Occurs(%d, %+v) is %v", id, x, got)
			}
		}
	}
}

// P3.2: Occurs of variables in all places, and of what only looks like them.
func TestOccurs(t *testing.T) {
	for _, x := range []api.Type{Var(2), con("L", Var(2)), con("->", Var(2), Int()), con("->", Int(), Var(2)), con("Q", Int(), Var(1), con("L", Var(2)), Int()), deep(40, Var(2))} {
		if !Occurs(2, x) || Occurs(3, x) || Occurs(0, x) {
			t.Errorf("Occurs in %+v", x)
		}
	}
	for _, x := range []api.Type{{}, {Id: 2}, Int(), bound(2), rigid(2, 2), name("a"), con("P", bound(2), rigid(2, 2)), Var(1)} {
		if Occurs(2, x) {
			t.Errorf("2 occurs in %+v", x)
		}
	}
}

// P3.3: Replace takes the first element, and all variables at once.
func TestReplace(t *testing.T) {
	v, w := Var(0), Var(1)
	to := func(id int, t api.Type) api.Assign { return api.Assign{Id: id, Type: t} }
	for _, c := range []struct {
		t    api.Type
		s    []api.Assign
		want api.Type
	}{
		{v, []api.Assign{to(0, w), to(1, Int())}, w}, // the chapter's example
		{con("->", v, w), []api.Assign{to(0, w), to(1, v)}, con("->", w, v)},
		{con("->", v, w), []api.Assign{to(1, v), to(1, Int())}, con("->", v, v)},
		{con("->", v, w), nil, con("->", v, w)},
		{con("->", v, w), []api.Assign{}, con("->", v, w)},
		{con("->", v, w), []api.Assign{to(2, Int())}, con("->", v, w)},
		{con("L", v), []api.Assign{to(0, con("L", v))}, con("L", con("L", v))},
		{con("Q", v, con("->", w, v), Int(), v), []api.Assign{to(0, con("P", w, w))}, con("Q", con("P", w, w), con("->", w, con("P", w, w)), Int(), con("P", w, w))},
		{con("Q", bound(0), rigid(0, 0), name("a"), v), []api.Assign{to(0, Int())}, con("Q", bound(0), rigid(0, 0), name("a"), Int())},
		{Int(), []api.Assign{to(0, v)}, Int()},
		{Var(1000000), []api.Assign{to(0, v), to(1000000, w)}, w},
	} {
		if got := Replace(c.t, c.s); !same(got, c.want) {
			t.Errorf("Replace(%+v, %+v) = %+v; want %+v", c.t, c.s, got, c.want)
		}
	}
}

// P3.3: Open replaces the indices of args, all at once, and nothing else.
func TestOpen(t *testing.T) {
	p, q, r := bound(0), bound(1), bound(2)
	for _, c := range []struct {
		t    api.Type
		args []api.Type
		want api.Type
	}{
		{con("->", p, con("->", q, Var(0))), []api.Type{q}, con("->", q, con("->", q, Var(0)))},
		{con("->", p, q), []api.Type{q, p}, con("->", q, p)},
		{con("->", p, q), nil, con("->", p, q)},
		{con("Q", r, q, p, q), []api.Type{Int(), con("L", r), Var(5)}, con("Q", Var(5), con("L", r), Int(), con("L", r))},
		{con("Q", p, Var(0), rigid(0, 0), name("a")), []api.Type{Int()}, con("Q", Int(), Var(0), rigid(0, 0), name("a"))},
		{q, []api.Type{Int(), Var(1), Var(2)}, Var(1)},
		{r, []api.Type{Int(), Var(1)}, r}, // the first number that is no index
		{bound(1000000), []api.Type{Int()}, bound(1000000)},
		{bound(-1), []api.Type{Int()}, bound(-1)},
		{con("L", con("L", p)), []api.Type{con("L", p)}, con("L", con("L", con("L", p)))},
		{Int(), []api.Type{Var(0)}, Int()},
	} {
		if got := Open(c.t, c.args); !same(got, c.want) {
			t.Errorf("Open(%+v, %+v) = %+v; want %+v", c.t, c.args, got, c.want)
		}
	}
}

// replacedNodes lists the nodes of t, where those of a type that parts finds for
// a node take its place.
func replacedNodes(t api.Type, parts func(node) (api.Type, bool)) []node {
	var out []node
	for _, n := range preorder(t) {
		if part, is := parts(n); is {
			out = append(out, preorder(part)...)
		} else {
			out = append(out, n)
		}
	}
	return out
}

// P3.3 and P3.5: Replace and Open agree with what becomes of the leaves, so Nodes
// of a result of Replace is a sum; and they leave their arguments alone.
func TestReplaceLeaves(t *testing.T) {
	s := []api.Assign{{Id: 1, Type: spare(con("->", Var(0), con("L", Var(1))))}, {Id: 2, Type: Int()}, {Id: 0, Type: Var(2)}, {Id: 1, Type: Int()}}
	args := []api.Type{spare(con("P", bound(1), bound(0))), Var(1), Int()}
	for _, x := range samples() {
		x = spare(x)
		before := preorder(x)
		got, opened := Replace(x, s[:3]), Open(x, args[:2])
		if want := replacedNodes(x, func(n node) (api.Type, bool) {
			i := slices.IndexFunc(s[:3], func(a api.Assign) bool { return n.kind == api.TypeVar && a.Id == n.id })
			return s[max(i, 0)].Type, i >= 0
		}); !slices.Equal(preorder(got), want) || Nodes(got) != len(want) {
			t.Fatalf("Replace(%+v) = %+v", x, got)
		}
		if want := replacedNodes(x, func(n node) (api.Type, bool) {
			return args[n.id%2], n.kind == api.TypeBound
		}); !slices.Equal(preorder(opened), want) {
			t.Fatalf("Open(%+v) = %+v", x, opened)
		}
		if got := Replace(x, nil); !slices.Equal(preorder(got), before) {
			t.Fatalf("Replace(%+v) with an empty list = %+v", x, got)
		}
		if !slices.Equal(preorder(x), before) || !intact(x) {
			t.Fatalf("a type has changed to %+v", x)
		}
	}
	if !intact(s[0].Type) || !intact(args[0]) || !same(s[0].Type, con("->", Var(0), con("L", Var(1)))) || !same(s[3].Type, Int()) || !same(args[2], Int()) {
		t.Error("a list of types has changed")
	}
}

// P3.4: the order of types that differ in one or more fields.
func TestCompare(t *testing.T) {
	l := []api.Type{ // ascending
		{Kind: -1}, {},
		Var(-1), Var(0), {Kind: api.TypeVar, Home: 1}, {Kind: api.TypeVar, Home: 1, Args: []api.Type{{}}}, Var(1), Var(2), Var(10), Var(1000000), {Kind: api.TypeVar, Name: "a", Id: -5},
		bound(0), bound(3),
		rigid(-1, 0), rigid(0, 0), rigid(7, 0), rigid(-1, 1), rigid(0, 1),
		con(""), con("->", Var(5), Int()), con("->", bound(0), Var(0)), con("->", bound(0), Var(1)), con("->", Int(), Var(0)),
		con("A"), con("A", Int()), con("A", Var(0), Var(0)), con("A", Var(0), Int()), con("A", Var(1), Var(0)), con("A", Var(0), Var(0), Var(0)),
		con("AB"), con("B"), con("B", con("L", Var(3))), con("B", con("L", Int())), con("B", con("M", Var(0))), Int(), con("Z"), con("\xff"),
		name("a"), name("ab"), name("b"),
		{Kind: 6},
	}
	for i := range l {
		for k := range l {
			if got := Compare(l[i], l[k]); got != cmp.Compare(i, k) {
				t.Errorf("Compare(%+v, %+v) = %d", l[i], l[k], got)
			}
		}
	}
}

// P3.4 and P3.5: Compare is the order of the lists of nodes, which is total, and
// returns 0 only for equal types.
func TestCompareOfAll(t *testing.T) {
	l := append(samples(), strange()...)
	nodes := preorders(l)
	for i, a := range l {
		for k, b := range l {
			got := Compare(a, b)
			if got != slices.CompareFunc(nodes[i], nodes[k], compareNodes) {
				t.Fatalf("Compare(%+v, %+v) = %d", a, b, got)
			}
			if got != -Compare(b, a) || (got == 0) != Equal(a, b) {
				t.Fatalf("Compare(%+v, %+v) = %d, and is %d in the other direction", a, b, got, Compare(b, a))
			}
		}
	}
	if Compare(con("T"), api.Type{Kind: api.TypeCon, Name: "T", Args: []api.Type{}}) != 0 {
		t.Error("Compare tells empty lists apart")
	}
}

// P3.5: Compare is transitive.
func TestCompareIsTransitive(t *testing.T) {
	l := append(samples()[:60], strange()...)
	for _, a := range l {
		for _, b := range l {
			for _, c := range l {
				if Compare(a, b) <= 0 && Compare(b, c) <= 0 && Compare(a, c) > 0 {
					t.Fatalf("%+v, %+v, %+v", a, b, c)
				}
			}
		}
	}
}

// P0.1: no function panics for types that are not valid, or for deep ones.
func TestAllArguments(t *testing.T) {
	l := append(strange(), deep(65000, Var(0)), deep(65000, bound(0)), deep(65000, rigid(0, 0)))
	for i, x := range l {
		y := l[(i+1)%len(l)]
		s := []api.Assign{{Id: -1, Type: y}, {Id: 0, Type: api.Type{}}, {Id: math.MaxInt, Type: x}}
		IsArrow(x)
		Con(x.Name, x, y)
		Valid(Arrow(x, y))
		Vars(x, y)
		Rigids(x, y)
		Occurs(x.Id, y)
		if Nodes(Replace(x, s)) < 1 || Nodes(Open(x, []api.Type{y, x})) < 1 || Depth(x) < 0 {
			t.Errorf("%d: a type without nodes", i)
		}
		if !Equal(x, x) || Compare(x, x) != 0 || Equal(x, y) || Compare(x, y) != -Compare(y, x) {
			t.Errorf("%d: two equal types differ, or two different ones do not", i)
		}
	}
	x := deep(65000, Var(0))
	if !Valid(x) || Depth(x) != 65000 || Nodes(x) != 97501 || !Occurs(0, x) || !slices.Equal(Vars(x), []int{0}) {
		t.Error("a deep type is not valid or not read to its end")
	}
	if got := Replace(x, []api.Assign{{Id: 0, Type: Int()}}); !same(got, deep(65000, Int())) {
		t.Error("a deep type is not replaced to its end")
	}
}

// P3.2: types with many variables are read in a short time.
func TestManyVars(t *testing.T) {
	const count = 100000
	var l, r []api.Type
	for i := range count {
		l = append(l, Var(count-i), Var(i))
		r = append(r, rigid(i, i), rigid(i, i+1), rigid(i, i))
	}
	if ids := Vars(l...); len(ids) != count+1 || ids[0] != count || ids[1] != 0 {
		t.Errorf("Vars returns %d variables", len(ids))
	}
	if rigids := Rigids(r...); len(rigids) != 2*count {
		t.Errorf("Rigids returns %d constants", len(rigids))
	}
}

package show

import (
	"math"
	"slices"
	"strings"
	"testing"

	"typedholes/api"
	"typedholes/readprogram"
	"typedholes/tree"
	"typedholes/types"
)

func constructor(name string, fields ...api.Type) api.Constructor {
	return api.Constructor{Pos: 20, Name: name, Fields: fields}
}

func data(name string, params []string, l ...api.Constructor) api.Data {
	return api.Data{Pos: 30, Name: name, Params: params, Constructors: l}
}

func bind(name string, body api.Expr) api.Bind { return api.Bind{Pos: 40, Name: name, Body: body} }

func signed(name string, sig api.Type, body api.Expr) api.Bind {
	return api.Bind{Pos: 40, Name: name, HasSig: true, Sig: sig, Body: body}
}

func recursive(b api.Bind) api.Bind {
	b.Rec = true
	return b
}

// programIs checks the text of a program, and that it is read as the same one.
func programIs(t *testing.T, p api.Program, want string) {
	t.Helper()
	if got := Program(p); got != want {
		t.Errorf("Program = %q; want %q", got, want)
	}
	if got := Program(tree.StripProgram(p)); got != want {
		t.Errorf("Program without positions = %q; want %q", got, want)
	}
	if got, f := readprogram.Parse(want); f.Err != api.OK || !tree.EqualProgram(got, p) {
		t.Errorf("Parse(%q) has the error %+v, or is not what was shown", want, f)
	}
}

// P8.3 and P8.4: the texts of declarations.
func TestProgramDatas(t *testing.T) {
	a, b := name("a"), name("b")
	for _, c := range []struct {
		d    api.Data
		want string
	}{
		{data("Unit", nil, constructor("U")), "data Unit = U;\n"},
		{data("Bool", []string{}, constructor("True"), constructor("False")), "data Bool = True | False;\n"},
		{data("Nat", nil, constructor("Zero"), constructor("Succ", types.Con("Nat"))), "data Nat = Zero | Succ Nat;\n"},
		{data("Box", []string{"a"}, constructor("Box", a)), "data Box a = Box a;\n"},
		{data("List", []string{"a"}, constructor("Nil"), constructor("Cons", a, types.Con("List", a))), "data List a = Nil | Cons a (List a);\n"},
		{data("F", []string{"a", "b"}, constructor("F", types.Arrow(a, b), a)), "data F a b = F (a -> b) a;\n"},
		{data("Q", []string{"a", "b", "c", "d"}, constructor("Q", a, types.Int(), types.Con("T", types.Con("T", b), types.Arrow(types.Arrow(a, b), a)), types.Con("U"))),
			"data Q a b c d = Q a Int (T (T b) ((a -> b) -> a)) U;\n"},
		{data("Six", nil, constructor("A"), constructor("B", types.Int()), constructor("C"), constructor("D"), constructor("E", types.Int(), types.Int()), constructor("F")),
			"data Six = A | B Int | C | D | E Int Int | F;\n"},
	} {
		programIs(t, api.Program{Datas: []api.Data{c.d}}, c.want)
	}
}

// P8.3 and P8.4: the texts of bindings.
func TestProgramBinds(t *testing.T) {
	a, x := name("a"), v("x")
	for _, c := range []struct {
		b    api.Bind
		want string
	}{
		{bind("x", hole()), "let x = ?;\n"},
		{bind("id", lam("x", x)), "let id = \\x. x;\n"},
		{recursive(bind("f", app(v("f"), num(1)))), "let rec f = f 1;\n"},
		{signed("n", types.Int(), num(0)), "let n : Int = 0;\n"},
		{signed("f", types.Arrow(types.Arrow(a, a), types.Con("List", a)), hole()), "let f : (a -> a) -> List a = ?;\n"},
		{recursive(signed("f", types.Arrow(a, types.Arrow(a, a)), v("f"))), "let rec f : a -> a -> a = f;\n"},
		{bind("x", let("y", num(1), rec("z", x, x))), "let x = let y = 1 in let rec z = x in x;\n"},
		{bind("x", ann(app(x, app(x, x)), a)), "let x = (x (x x) : a);\n"},
		{bind("x", cases(x, arm("A", x), arm("B", held(x), "y"))), "let x = case x of A. x | B y. {x} end;\n"},
	} {
		programIs(t, api.Program{Binds: []api.Bind{c.b}}, c.want)
	}
	// Without HasSig there is no signature.
	if got := Program(api.Program{Binds: []api.Bind{{Name: "x", Sig: a, Body: x}}}); got != "let x = x;\n" {
		t.Errorf("a type that is no signature is written: %q", got)
	}
}

// P8.3 and P8.4: declarations come before bindings, each in order.
func TestProgramOrder(t *testing.T) {
	a := name("a")
	programIs(t, api.Program{}, "")
	programIs(t, api.Program{Datas: []api.Data{}, Binds: []api.Bind{}}, "")
	p := api.Program{
		Datas: []api.Data{data("List", []string{"a"}, constructor("Nil"), constructor("Cons", a, types.Con("List", a))), data("A", nil, constructor("A")), data("List", nil, constructor("A"))},
		Binds: []api.Bind{recursive(bind("z", v("z"))), signed("b", a, hole()), bind("a", num(2)), bind("b", held(hole()))},
	}
	for i := range p.Datas { // the order of the positions does not matter
		p.Datas[i].Pos = 900 - i
	}
	for i := range p.Binds {
		p.Binds[i].Pos = 800 - i
	}
	programIs(t, p, "data List a = Nil | Cons a (List a);\ndata A = A;\ndata List = A;\nlet rec z = z;\nlet b : a = ?;\nlet a = 2;\nlet b = {?};\n")
}

// P8.3 and P8.4: each type and each expression at each place of a program.
func TestProgramParts(t *testing.T) {
	for _, x := range typeSamples(2) {
		if !x.readable {
			continue
		}
		field := x.text
		if x.class != single {
			field = "(" + field + ")"
		}
		programIs(t, api.Program{
			Datas: []api.Data{data("D", []string{"a"}, constructor("A", x.part), constructor("B", name("a"), x.part, types.Int(), x.part))},
			Binds: []api.Bind{signed("f", x.part, num(1)), recursive(signed("g", x.part, ann(hole(), x.part)))},
		}, "data D a = A "+field+" | B a "+field+" Int "+field+";\nlet f : "+x.text+" = 1;\nlet rec g : "+x.text+" = (? : "+x.text+");\n")
	}
	for _, x := range exprSamples(2) {
		programIs(t, api.Program{Binds: []api.Bind{bind("f", x.part), recursive(signed("g", types.Int(), x.part))}},
			"let f = "+x.text+";\nlet rec g : Int = "+x.text+";\n")
	}
}

// P8.4: a program at the limits of chapter 7.
func TestProgramLimits(t *testing.T) {
	params := []string{"a", "b", "c", "d"}
	wide := constructor("C", name("a"), name("b"), name("c"), name("d"))
	var p api.Program
	for range api.MaxDatas {
		p.Datas = append(p.Datas, data("T", params, slices.Repeat([]api.Constructor{wide}, api.MaxConstructors)...))
	}
	for range api.MaxBinds {
		p.Binds = append(p.Binds, recursive(signed("x", types.Con("T", types.Int(), types.Int(), types.Int(), types.Int()), cases(hole(), arm("C", num(999999999), params...)))))
	}
	programIs(t, p, strings.Repeat("data T a b c d = C a b c d"+strings.Repeat(" | C a b c d", api.MaxConstructors-1)+";\n", api.MaxDatas)+
		strings.Repeat("let rec x : T Int Int Int Int = case ? of C a b c d. 999999999 end;\n", api.MaxBinds))
}

// P8.4: the programs of the document are shown as they are read, and what is shown
// is shown again.
func TestProgramTexts(t *testing.T) {
	for _, c := range [][2]string{
		{"data List a = Nil | Cons a (List a);\nlet rec map : (a -> b) -> List a -> List b =\n  \\f. \\l. case l of Nil. Nil | Cons x t. Cons (f x) (map f t) end;\nlet inc = \\n. ?;            # a hole\nlet pair = let id = \\x. x in {id};\nlet one = (1 : Int);\n",
			"data List a = Nil | Cons a (List a);\nlet rec map : (a -> b) -> List a -> List b = \\f. \\l. case l of Nil. Nil | Cons x t. Cons (f x) (map f t) end;\nlet inc = \\n. ?;\nlet pair = let id = \\x. x in {id};\nlet one = (1 : Int);\n"},
		{"let x=((f)(((g)))((\\y.((y)))));data T=((T));", ""},
		{"let x=((f)(((g)))((\\y.((y)))));data T=T((a))((T));let y:((a)->((b->c)))=(((?)):(T((T))));",
			"data T = T a T;\nlet x = f g (\\y. y);\nlet y : a -> b -> c = (? : T T);\n"},
	} {
		p, f := readprogram.Parse(c[0])
		if c[1] == "" {
			if f.Err == api.OK {
				t.Errorf("%q is read", c[0])
			}
			continue
		}
		if f.Err != api.OK {
			t.Errorf("Parse(%q) fails: %+v", c[0], f)
		}
		programIs(t, p, c[1])
	}
}

// nested returns a part at a place, a number of times, with its text.
func nested[T any](x written[T], p place[T], levels int) (T, string) {
	before, behind, _ := strings.Cut(x.at(p).at(p).text, x.at(p).text)
	first := x.at(p).text
	part := x.part
	for range levels {
		part = p.put(part)
	}
	return part, strings.Repeat(before, levels-1) + first + strings.Repeat(behind, levels-1)
}

// P0.1 and P0.8: parts with as many levels as there may be have texts.
func TestNested(t *testing.T) {
	const levels = 1 << 16
	for i, p := range exprPlaces() {
		e, want := nested(exprLeaves()[0], p, levels)
		if got := Expr(e); got != want {
			t.Errorf("the text of nested expressions, number %d, is wrong", i)
		}
		if got := Program(api.Program{Binds: []api.Bind{bind("x", e)}}); got != "let x = "+want+";\n" {
			t.Errorf("the text of a program with nested expressions, number %d, is wrong", i)
		}
	}
	for i, p := range typePlaces() {
		x, want := nested(typeLeaves()[0], p, levels)
		if got := Type(x); got != want {
			t.Errorf("the text of nested types, number %d, is wrong", i)
		}
	}
}

// P0.1: no function panics for parts that are not valid.
func TestNotValid(t *testing.T) {
	strange := []api.Type{
		{}, {Kind: -1}, {Kind: 6}, {Kind: math.MaxInt, Args: []api.Type{{}}}, types.Var(-1), types.Var(math.MinInt), types.Var(math.MaxInt), bound(-1), rigid(-7, -7),
		types.Con("->"), types.Con("->", types.Int()), types.Con("->", types.Int(), types.Int(), types.Int()), types.Con(""), types.Con("Int", types.Int()), name(""), name("let"), name("\xff"),
		types.Con("P", slices.Repeat([]api.Type{types.Var(1)}, 100)...), {Kind: api.TypeVar, Name: "a", Id: 1, Home: 3, Args: []api.Type{types.Int()}},
	}
	for _, x := range strange {
		for _, y := range append(strange, types.Int()) {
			Type(types.Arrow(x, y))
			Type(types.Con("P", y, x))
			Scheme(api.Scheme{Count: -1, Type: x})
			Expr(ann(hole(), x))
			Program(api.Program{Datas: []api.Data{data("", nil, constructor("", x, y))}, Binds: []api.Bind{signed("", x, ann(api.Expr{}, y))}})
		}
	}
	for kind := -1; kind <= 13; kind++ {
		for count := range 4 {
			kids := slices.Repeat([]api.Expr{app(v("x"), hole())}, count)
			e := api.Expr{Kind: kind, Pos: -1, Name: "\x00", Num: -5, Kids: kids, Type: strange[0]}
			Expr(e)
			e.Arms = []api.Arm{{}, {Vars: []string{"", "x"}, Body: e}}
			Expr(e)
			Expr(app(e, e))
			Program(api.Program{Binds: []api.Bind{bind("", e)}})
		}
	}
	Program(api.Program{Datas: []api.Data{{}, {Params: []string{""}, Constructors: []api.Constructor{{}}}}, Binds: []api.Bind{{}, {Rec: true, HasSig: true}}})
}

// P0.4 and P0.7: the functions leave their arguments alone, and the same ones have
// the same text again.
func TestArguments(t *testing.T) {
	a := name("a")
	list := []api.Type{a, types.Int(), types.Con("mark")}
	kids := []api.Expr{v("f"), v("x"), con("Mark")}
	vars := []string{"y", "z", "mark"}
	arms := []api.Arm{arm("A", v("y"), vars[:2]...), arm("Mark", hole())}
	sig := api.Type{Kind: api.TypeCon, Name: "->", Args: list[:2]}
	e := api.Expr{Kind: api.ExprCase, Kids: []api.Expr{{Kind: api.ExprApp, Kids: kids[:2]}}, Arms: arms[:1]}
	p := api.Program{Datas: []api.Data{data("D", vars[:2], constructor("C", list[:2]...))}, Binds: []api.Bind{signed("x", sig, e)}}
	for range 3 {
		if got := Type(sig); got != "a -> Int" {
			t.Errorf("Type = %q", got)
		}
		if got := Expr(e); got != "case f x of A y z. y end" {
			t.Errorf("Expr = %q", got)
		}
		if got := Program(p); got != "data D y z = C a Int;\nlet x : a -> Int = case f x of A y z. y end;\n" {
			t.Errorf("Program = %q", got)
		}
	}
	if !slices.EqualFunc(list, []api.Type{a, types.Int(), types.Con("mark")}, types.Equal) || !slices.Equal(vars, []string{"y", "z", "mark"}) ||
		!slices.EqualFunc(kids, []api.Expr{v("f"), v("x"), con("Mark")}, tree.Equal) || arms[1].Con != "Mark" || len(arms[0].Vars) != 2 {
		t.Error("a list has changed")
	}
}

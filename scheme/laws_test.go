package scheme

import (
	"math"
	"slices"
	"strconv"
	"strings"
	"testing"

	"typedholes/api"
	"typedholes/subst"
	"typedholes/types"
)

// P14.4: General is reflexive and transitive, and holds in both directions only for
// equal schemes.
func TestGeneralIsAnOrder(t *testing.T) {
	var l []api.Scheme
	for _, c := range sampleSchemes() {
		l = append(l, schemeOf(c))
	}
	above := make([][]bool, len(l))
	for i, a := range l {
		for _, b := range l {
			above[i] = append(above[i], General(a, b))
		}
	}
	for i := range l {
		for k := range l {
			if (above[i][k] && above[k][i]) != (i == k) {
				t.Fatalf("General of %s and %s is %v and %v", writeScheme(l[i]), writeScheme(l[k]), above[i][k], above[k][i])
			}
			for m := range l {
				if above[i][k] && above[k][m] && !above[i][m] {
					t.Fatalf("%s, %s, %s", writeScheme(l[i]), writeScheme(l[k]), writeScheme(l[m]))
				}
			}
		}
	}
}

// P14.4: no substitution makes a type whose scheme is not below that of the closed
// type.
func TestCloseIsMostGeneral(t *testing.T) {
	words := []string{"0", "1", "Int", "L 1", "-> 2 0", "P r0.1 3"}
	for _, x := range typesOf(sampleTypes()) {
		c := Close(x, types.Vars(x))
		for _, list := range lists(3, words) {
			var s []api.Assign
			for id, by := range typesOf(list) {
				s = append(s, api.Assign{Id: id, Type: by})
			}
			other := subst.Apply(s, x)
			for _, ids := range [][]int{nil, {0}, {1, 2}, {0, 1, 2, 3}, types.Vars(other)} {
				if d := Close(other, ids); !General(c, d) {
					t.Fatalf("%s is not as general as %s", writeScheme(c), writeScheme(d))
				}
			}
		}
	}
}

// P14.4: Instance of Open(c, args) returns args.
func TestInstanceOfOpen(t *testing.T) {
	count := 0
	for _, words := range sampleSchemes() {
		c := schemeOf(words)
		for _, list := range lists(c.Count, []string{"0", "Int", "b0", "b1", "L 0", "-> b1 r0.1", "x"}) {
			args := typesOf(list)
			x, _ := Open(c, args)
			got, is := Instance(c, x)
			if !is || writeTypes(got) != writeTypes(args) {
				t.Fatalf("Instance(%s, %s) = %s, %v", words, write(x), writeTypes(got), is)
			}
			count++
		}
	}
	if count < 1000 {
		t.Errorf("only %d instances", count)
	}
}

// P14.4: the Ids of the variables that are quantified leave no trace.
func TestCloseOfRenamed(t *testing.T) {
	for _, words := range sampleTypes() {
		x := typeOf(words)
		vars := types.Vars(x)
		for _, names := range [][]string{{"5", "6", "7"}, {"2", "1", "0"}, {"1", "0", "2"}, {"1000000", "10", "1"}} {
			var s []api.Assign
			var ids []int
			for i, id := range vars {
				s = append(s, api.Assign{Id: id, Type: typeOf(names[i])})
				ids = append([]int{number(names[i])}, ids...)
			}
			if a, b := Close(x, vars), Close(subst.Apply(s, x), ids); !Equal(a, b) {
				t.Fatalf("%s and %s differ", writeScheme(a), writeScheme(b))
			}
		}
	}
}

// P0.4: no function changes its arguments, or the capacity behind them.
func TestArgumentsStay(t *testing.T) {
	schemes := sampleSchemes()
	for i, words := range schemes {
		a, b := schemeOf(words), schemeOf(schemes[(i*7)%len(schemes)])
		a.Type, b.Type = spare(a.Type), spare(b.Type)
		args := spareTypes(typesOf([]string{"P 0 b0", "Int", "-> T b1"}[:a.Count]))
		x := spare(types.Open(a.Type, args))
		ids := append(make([]int, 0, 4), 1, 0)
		ids[:3][2] = 77
		list := append(make([]api.Scheme, 0, 3), a, b)
		list[:3][2] = b
		seen := func() string {
			return strings.Join([]string{all(args), all(list[0].Type.Args), all(list[1].Type.Args), writeScheme(list[:3][2]), all([]api.Type{x, a.Type, b.Type})}, "\n")
		}
		before := seen()
		Valid(a)
		Mono(x)
		Close(x, ids)
		Open(a, args)
		Free(list...)
		Instance(a, x)
		General(a, b)
		Equal(a, b)
		if seen() != before || !slices.Equal(ids[:4], []int{1, 0, 77, 0}) {
			t.Fatalf("arguments have changed from %s to %s, %v", before, seen(), ids[:4])
		}
	}
}

// P0.1: no function panics for arguments that are not valid.
func TestAllArguments(t *testing.T) {
	l := slices.Concat(strange(), strangeBound(), []api.Type{deep(500, types.Var(0)), bound(0), bound(1), types.Var(0), typeOf("-> b1 b0"), typeOf("L x"), {Kind: api.TypeBound, Id: 2, Args: []api.Type{bound(0)}}})
	for i, x := range l {
		for k, y := range l {
			for _, count := range []int{math.MinInt, -1, 0, 1, 2, 3, 1000002, math.MaxInt} {
				c := api.Scheme{Count: count, Type: x}
				if Valid(c) && (count < 0 || !types.Valid(x)) {
					t.Errorf("%d, %d: a scheme is valid, but its parts are not", i, count)
				}
				if args, is := Instance(c, y); is && len(args) != count || !is && len(args) > 0 {
					t.Errorf("%d, %d, %d: Instance returns %d types and %v", i, k, count, len(args), is)
				}
				General(c, api.Scheme{Count: -count, Type: y})
				General(c, api.Scheme{Count: count, Type: types.Con("L", y)})
				if !Equal(c, c) {
					t.Errorf("%d, %d: a scheme is not equal to itself", i, count)
				}
				Open(c, []api.Type{y, x})
				Free(c, api.Scheme{Count: k, Type: y})
			}
		}
		Mono(x)
		Close(x, []int{0, -1, math.MinInt, 1, math.MaxInt, 0, 1000001})
	}
}

// Schemes of constructors (chapter 9) number their quantified variables by the
// parameters of the data type, so they are not always valid; Instance finds the
// types of these, too.
func TestInstanceOfConstructor(t *testing.T) {
	c := schemeOf("2 -> b1 -> b0 P b0 b1")
	if got, is := Instance(c, typeOf("-> Int -> T P T Int")); !is || writeTypes(got) != "T; Int" {
		t.Errorf("Instance = %s, %v", writeTypes(got), is)
	}
	if got, is := Instance(c, typeOf("-> Int -> T P Int T")); is || len(got) > 0 {
		t.Errorf("Instance = %s, %v", writeTypes(got), is)
	}
}

// P0.8: deep types are read to their ends.
func TestDeep(t *testing.T) {
	const depth = 65000
	x, y := deep(depth, types.Var(1)), deep(depth, types.Int())
	c := Close(x, []int{1})
	if !Equal(c, api.Scheme{Count: 1, Type: deep(depth, bound(0))}) || !Valid(c) || !Valid(Mono(x)) {
		t.Error("a deep type is not closed to its end")
	}
	if Valid(api.Scheme{Count: 1, Type: deep(depth, bound(1))}) || Valid(Mono(deep(depth, typeOf("x")))) {
		t.Error("a deep type is not read to its end")
	}
	if got, is := Open(c, []api.Type{types.Int()}); !is || !types.Equal(got, y) {
		t.Error("a deep type is not opened to its end")
	}
	if got, is := Instance(c, y); !is || writeTypes(got) != "Int" {
		t.Errorf("Instance of a deep type = %s, %v", writeTypes(got), is)
	}
	if !General(c, Mono(x)) || General(Mono(x), c) || !slices.Equal(Free(c, Mono(x)), []int{1}) {
		t.Error("a deep type is not compared to its end")
	}
}

// P0.8: schemes with many quantified variables are compared in a short time.
func TestManyVariables(t *testing.T) {
	const count = 20000
	x := wide(0, count, func(i int) api.Type { return types.Var(count - i) })
	twice := types.Con("P", x, x)
	c := Close(twice, types.Vars(x))
	if c.Count != count || !Valid(c) {
		t.Fatalf("Close quantifies %d variables", c.Count)
	}
	args, is := Instance(c, twice)
	if !is || len(args) != count {
		t.Fatalf("Instance returns %d types and %v", len(args), is)
	}
	for i, arg := range args {
		if write(arg) != strconv.Itoa(count-i) {
			t.Fatalf("the type %d is %s", i, write(arg))
		}
	}
	if !General(c, Mono(twice)) || !General(c, c) || General(Mono(twice), c) {
		t.Error("General of schemes with many variables")
	}
}

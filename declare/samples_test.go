package declare

import (
	"math"
	"slices"
	"testing"

	"typedholes/api"
	"typedholes/readprogram"
	"typedholes/types"
)

func name(s string) api.Type { return api.Type{Kind: api.TypeName, Name: s} }

func bnd(id int) api.Type { return api.Type{Kind: api.TypeBound, Id: id} }

func rigid(home, id int) api.Type { return api.Type{Kind: api.TypeRigid, Home: home, Id: id} }

func con(name string, args ...api.Type) api.Type {
	return api.Type{Kind: api.TypeCon, Name: name, Args: args}
}

// datasOf returns the declarations of a text.
func datasOf(t *testing.T, src string) []api.Data {
	t.Helper()
	p, f := readprogram.Parse(src)
	if f.Err != api.OK {
		t.Fatalf("Parse(%q) fails: %+v", src, f)
	}
	return p.Datas
}

// typeOf returns the type of a text.
func typeOf(t *testing.T, src string) api.Type {
	t.Helper()
	x, f := readprogram.ParseType(src)
	if f.Err != api.OK {
		t.Fatalf("ParseType(%q) fails: %+v", src, f)
	}
	return x
}

// node is a node of a type, with the number of its arguments alone.
type node struct {
	kind     int
	name     string
	id, home int
	arity    int
}

// preorder lists the nodes of a type from left to right. It is the tests' second
// way to look at types, and has no recursion.
func preorder(t api.Type) []node {
	var out []node
	for left := []api.Type{t}; len(left) > 0; {
		x := left[0]
		out = append(out, node{x.Kind, x.Name, x.Id, x.Home, len(x.Args)})
		left = append(slices.Clone(x.Args), left[1:]...)
	}
	return out
}

// grown returns the leaves and the types that are made of them in a number of
// rounds.
func grown(leaves []api.Type, rounds int) []api.Type {
	out := slices.Clone(leaves)
	level := leaves
	for range rounds {
		var next []api.Type
		for i, a := range level {
			next = append(next, con("T", a))
			for k, b := range leaves {
				if (i+k)%3 != 0 {
					next = append(next, con("->", a, b), con("P", b, a), con("Int", a), con("T", a, b), con("U", b, a), con("P", a, b, a))
				}
			}
		}
		out = append(out, next...)
		level = next
	}
	return out
}

// samples returns types of all kinds, with all errors at different places.
func samples() []api.Type {
	return grown([]api.Type{name("a"), name("b"), name("c"), types.Int(), con("E"), con("T"), con("U"), types.Var(0), bnd(1), rigid(-1, 0)}, 2)
}

// strange returns types that are not valid.
func strange() []api.Type {
	return []api.Type{
		{}, {Kind: -1}, {Kind: 6, Name: "a"}, {Kind: math.MaxInt, Args: []api.Type{{}}}, {Kind: math.MinInt, Id: math.MinInt},
		types.Var(-1), bnd(-1), bnd(math.MinInt), bnd(math.MaxInt), rigid(-2, math.MaxInt),
		con(""), con("->"), con("->", name("a")), con("->", bnd(0), bnd(1), bnd(2)), con("\xff", name("\xff")), name(""), name("A"), name("->"),
		{Kind: api.TypeName, Name: "a", Id: 3, Home: 4, Args: []api.Type{name("b"), {}}}, {Kind: api.TypeVar, Args: []api.Type{name("a")}},
		con("T", slices.Repeat([]api.Type{name("b")}, 50)...),
	}
}

// deep returns a type of a depth.
func deep(depth int, leaf api.Type) api.Type {
	for i := range depth {
		if i%2 == 0 {
			leaf = con("->", types.Int(), leaf)
		} else {
			leaf = con("T", leaf)
		}
	}
	return leaf
}

// spare returns a list with capacity left, which is filled with a mark.
func spare[T any](l []T, mark T) []T {
	return append(slices.Clone(l), mark, mark)[:len(l)]
}

// spareType returns t with lists of arguments that have marked capacity left.
func spareType(t api.Type) api.Type {
	if len(t.Args) == 0 {
		return t
	}
	var args []api.Type
	for _, arg := range t.Args {
		args = append(args, spareType(arg))
	}
	t.Args = spare(args, name("mark"))
	return t
}

// intact reports whether the marks that spareType has left are still there.
func intact(t api.Type) bool {
	if len(t.Args) == 0 {
		return true
	}
	for _, mark := range t.Args[len(t.Args) : len(t.Args)+2] {
		if !types.Equal(mark, name("mark")) {
			return false
		}
	}
	return !slices.ContainsFunc(t.Args, func(arg api.Type) bool { return !intact(arg) })
}

package subst

import (
	"math"
	"slices"
	"testing"

	"typedholes/api"
	"typedholes/types"
)

// P13.4: Apply of Compose(a, b) is Apply of b after Apply of a.
func TestApplyOfCompose(t *testing.T) {
	for _, a := range sampleAssigns() {
		for _, b := range sampleAssigns() {
			composed := Compose(assigns(a), assigns(b))
			if !Valid(composed) {
				t.Fatalf("Compose(%s, %s) = %s is not valid", a, b, writeAll(composed))
			}
			for _, words := range few(sampleTypes(), 2) {
				x := typeOf(words)
				if got, want := Apply(composed, x), Apply(assigns(b), Apply(assigns(a), x)); !types.Equal(got, want) {
					t.Fatalf("Apply(Compose(%s, %s), %s) = %s; want %s", a, b, words, write(got), write(want))
				}
			}
		}
	}
}

// P13.4: Compose is associative.
func TestComposeIsAssociative(t *testing.T) {
	l := few(sampleAssigns(), 2)
	ids := slices.Concat(idLists()...)
	for _, a := range l {
		for _, b := range l {
			for _, c := range l {
				x, y, z := assigns(a), assigns(b), assigns(c)
				left, right := Compose(Compose(x, y), z), Compose(x, Compose(y, z))
				if !Equal(left, right, ids) {
					t.Fatalf("Compose of %s, %s and %s = %s and %s", a, b, c, writeAll(left), writeAll(right))
				}
			}
		}
	}
}

// P13.4: a factor of a composition is found, and is one.
func TestFactorOfCompose(t *testing.T) {
	for _, a := range sampleAssigns() {
		for _, b := range sampleAssigns() {
			s, composed := assigns(a), Compose(assigns(a), assigns(b))
			for _, ids := range idLists() {
				r, found := Factor(s, composed, ids)
				if !found || !Equal(Compose(s, r), composed, ids) {
					t.Fatalf("Factor(%s, %s, %v) = %s, %v", a, writeAll(composed), ids, writeAll(r), found)
				}
			}
		}
	}
}

// P13.4: the empty substitution is neutral, as nil and as an empty list.
func TestEmpty(t *testing.T) {
	for _, empty := range [][]api.Assign{nil, {}} {
		for _, s := range sampleAssigns() {
			for _, got := range [][]api.Assign{Compose(empty, assigns(s)), Compose(assigns(s), empty)} {
				if writeAll(got) != s {
					t.Errorf("Compose of %s and the empty substitution = %s", s, writeAll(got))
				}
			}
		}
		for _, words := range sampleTypes() {
			if got := write(Apply(empty, typeOf(words))); got != words {
				t.Errorf("Apply of the empty substitution to %s = %s", words, got)
			}
		}
		if r, found := Factor(empty, empty, []int{2, 1, 2}); !found || writeAll(r) != "2=2;1=1" {
			t.Errorf("Factor of the empty substitution = %s, %v", writeAll(r), found)
		}
		if !Valid(empty) || !Idempotent(empty) || !Equal(empty, assigns("1=1"), []int{0, 1}) || len(Compose(empty, empty)) > 0 {
			t.Error("the empty substitution is not neutral")
		}
	}
}

// P0.4: no function changes its arguments, or the capacity behind them.
func TestArgumentsStay(t *testing.T) {
	l := few(sampleAssigns(), 2)
	for i, words := range sampleTypes() {
		for k := range l {
			a, b := spareAssigns(assigns(l[k])), spareAssigns(assigns(l[(k*7+i)%len(l)]))
			x := spareType(typeOf(words))
			ids := append(make([]int, 0, 4), 1, 0)
			ids[:3][2] = 77
			context := append(make([]api.Entry, 0, 2), api.Entry{Name: "x", Scheme: api.Scheme{Type: x}})
			before := []string{allOf(a), allOf(b), allOfType(x), writeContext(context[:2])}
			Apply(a, x)
			ApplyScheme(a, context[0].Scheme)
			ApplyContext(a, context)
			Compose(a, b)
			Valid(a)
			Idempotent(a)
			Equal(a, b, ids)
			Factor(a, b, ids)
			Factor(a, Compose(a, b), ids)
			after := []string{allOf(a), allOf(b), allOfType(x), writeContext(context[:2])}
			if !slices.Equal(before, after) || !slices.Equal(ids[:4], []int{1, 0, 77, 0}) {
				t.Fatalf("arguments have changed from %v to %v, %v", before, after, ids[:4])
			}
		}
	}
}

// P0.1: no function panics for arguments that are not valid.
func TestAllArguments(t *testing.T) {
	l := append(strange(), deep(500, types.Var(0)), deep(500, types.Int()), types.Var(0), types.Var(1), typeOf("-> 0 1"), typeOf("L b0"))
	ids := []int{0, -1, math.MinInt, 1, math.MaxInt, 0, 1000001}
	for i, x := range l {
		for k, y := range l {
			a := []api.Assign{{Id: -1, Type: y}, {Id: 0, Type: x}, {Id: i, Type: y}, {Id: 0, Type: y}, {Id: math.MaxInt, Type: x}}
			b := []api.Assign{{Id: 0, Type: y}, {Id: math.MinInt, Type: x}, {Id: 1, Type: l[(i+k)%len(l)]}, {Id: 1, Type: y}}
			for _, s := range [][]api.Assign{a, b, a[1:2], b[:1]} {
				Idempotent(s)
				Apply(s, x)
				ApplyScheme(s, api.Scheme{Count: -1, Type: y})
				ApplyContext(s, []api.Entry{{Name: "\xff", Scheme: api.Scheme{Count: math.MaxInt, Type: y}}, {}})
				Equal(s, b, ids)
				Factor(s, b, ids)
				Factor(b, s, ids)
				if Valid(s) && !types.Valid(s[0].Type) {
					t.Errorf("%d, %d: a substitution is valid, but its types are not", i, k)
				}
			}
			if i%4 == 0 {
				Compose(a, b)
			}
		}
	}
}

// P0.8: deep types are read to their ends.
func TestDeep(t *testing.T) {
	x, y := deep(65000, types.Var(1)), deep(65000, types.Int())
	s, r := []api.Assign{{Id: 0, Type: x}}, []api.Assign{{Id: 1, Type: types.Int()}}
	if !types.Equal(Apply(r, x), y) || !Valid(s) || !Idempotent(s) || Idempotent(append(s, r...)) {
		t.Error("a deep type is not replaced to its end")
	}
	composed := Compose(s, r)
	if !Equal(composed, []api.Assign{{Id: 0, Type: y}}, []int{0}) || Equal(composed, s, []int{0}) {
		t.Error("a deep type is not composed to its end")
	}
	if got, found := Factor(s, composed, []int{0}); !found || writeAll(got) != "1=Int" {
		t.Errorf("Factor of a deep type = %s, %v", writeAll(got), found)
	}
	if got, found := Factor(composed, s, []int{0}); found || len(got) > 0 {
		t.Errorf("Factor of a deep type that is more special = %s, %v", writeAll(got), found)
	}
}

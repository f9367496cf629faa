package store

import (
	"math"
	"slices"
	"strconv"
	"strings"
	"testing"

	"typedholes/api"
	"typedholes/types"
)

// isValid reports whether slots that are written s are valid: their type variables
// have slots, and all resolved forms come to an end.
func isValid(s string) bool {
	slots := strings.Split(s, ";")
	for _, words := range slots {
		for _, id := range varsOf(strings.TrimPrefix(words, "-")) {
			if id >= len(slots) {
				return false
			}
		}
	}
	for i := range slots {
		if _, is := written(s, strconv.Itoa(i)); !is {
			return false
		}
	}
	return true
}

// P16.1: Valid of many stores.
func TestValid(t *testing.T) {
	count := map[bool]int{}
	for _, words := range sampleStores() {
		want := isValid(words)
		if got := Valid(storeOf(words)); got != want {
			t.Fatalf("Valid(%s) is %v", words, got)
		}
		count[want]++
	}
	if count[true] < 150 || count[false] < 200 {
		t.Errorf("only %v", count)
	}
}

// P16.1: Valid of a few stores.
func TestValidFew(t *testing.T) {
	for _, c := range []struct {
		slots string
		want  bool
	}{
		{"", true}, {"-", true}, {"Int", true}, {"b7", true}, {"r-1.3", true}, {"a", true}, {"-> a Int", true},
		{"0", false}, {"L 0", false}, {"P Int L 0", false}, {"1", false}, {"L 1", false}, {"L P Int 1;-", true}, {"P 1 2;-", false},
		{"1;-", true}, {"-;0", true}, {"1;0", false}, {"L 1;0", false}, {"1;L 0", false}, {"1;2;0", false}, {"1;2;-", true}, {"1;2;Q Int Int 0", false},
		{"-;P 0 0;P 1 0", true}, {"P 1 2;2;-", true}, {"P 1 2;2;1", false}, {"-;-;L 2", false}, {"P 1 1;P 2 2;P 3 3;P 0 0", false},
	} {
		if got := Valid(storeOf(c.slots)); got != c.want {
			t.Errorf("Valid(%s) is %v", c.slots, got)
		}
	}
}

// P16.1: the type of a slot that is not bound is the zero type; that of another one
// is valid.
func TestValidSlots(t *testing.T) {
	for _, x := range slices.Concat(strangeTypes(), []api.Type{types.Int(), types.Var(0), {Id: 1}, {Id: -1}, {Home: 1}, {Name: "x"}, {Args: []api.Type{{}}}}) {
		zero := x.Kind == 0 && x.Name == "" && x.Id == 0 && x.Home == 0 && len(x.Args) == 0
		for _, rest := range []api.Slot{{}, {Home: 5}, {Home: -7, Base: true}, {Home: math.MaxInt}} {
			rest.Type = x
			for _, slots := range [][]api.Slot{{rest}, {{}, rest}, {rest, {}}, {{}, rest, {Bound: true, Type: types.Int()}}} {
				if got := Valid(api.Store{Slots: slots}); got != zero {
					t.Errorf("Valid of a slot that is not bound with %+v is %v", x, got)
				}
			}
			rest.Bound = true
			want := types.Valid(x) && x.Kind != api.TypeVar
			if got := Valid(api.Store{Slots: []api.Slot{rest}}); got != want {
				t.Errorf("Valid of a slot that is bound to %+v is %v", x, got)
			}
		}
	}
	empty := api.Type{Args: []api.Type{}}
	if !Valid(api.Store{Slots: []api.Slot{{Type: empty}}, Trail: []api.Change{}}) {
		t.Error("an empty list counts")
	}
}

// P16.1: the entries of the trail have the Ids of slots.
func TestValidTrail(t *testing.T) {
	for _, id := range []int{math.MinInt, -1, 0, 1, 2, 3, 1000000, math.MaxInt} {
		for _, change := range []api.Change{{Id: id}, {Id: id, New: true}, {Id: id, Old: slotOf("Int", 0, true)}} {
			for _, trail := range [][]api.Change{{change}, {{Id: 1}, change}, {change, {Id: 1}}} {
				s := storeOf("-;Int;L 0")
				s.Trail = trail
				if got := Valid(s); got != (id >= 0 && id < 3) {
					t.Errorf("Valid with the trail %+v is %v", trail, got)
				}
			}
		}
	}
	if Valid(api.Store{Trail: []api.Change{{}}}) {
		t.Error("a trail without slots is valid")
	}
}

// P16.1: long circles.
func TestValidLong(t *testing.T) {
	for _, wrap := range []func(api.Type) api.Type{same, listOf, pairOf} {
		for _, length := range []int{1, 2, 3, 1000, 100000} {
			s := chain(length, wrap)
			if !Valid(s) {
				t.Errorf("the store of %d slots is not valid", length)
			}
			s.Slots[0] = api.Slot{Bound: true, Type: wrap(types.Var(length - 1))}
			if Valid(s) {
				t.Errorf("the circle of %d slots is valid", length)
			}
		}
	}
}

// callAll calls all functions, whose results are not promised.
func callAll(s api.Store, x api.Type) {
	Valid(s)
	Fresh(s, -3, true)
	for id := range len(s.Slots) + 2 {
		Set(s, id-1, api.Slot{Bound: true, Type: x})
	}
	Walk(s, x)
	for _, most := range []int{math.MinInt, 0, 100, math.MaxInt - 1, math.MaxInt} {
		Size(s, x, most)
	}
	Resolve(s, x)
	Vars(s, x, x)
	for mark := range Mark(s) + 2 {
		Rollback(s, mark-1)
	}
}

// P0.1, P0.6: the functions terminate and do not panic for stores and types that are
// not valid.
func TestStrange(t *testing.T) {
	trail := []api.Change{{Id: 0, New: true}, {Id: -1}, {Id: 1, New: true}, {Id: 2, Old: slotOf("1", 0, true)}, {Id: 9, New: true}, {Id: math.MaxInt}, {Id: math.MinInt, New: true}, {Id: 1, New: true}, {Id: 0}}
	for i, words := range sampleStores() {
		s := storeOf(words)
		if i%2 == 0 {
			s.Trail = trail
		}
		for _, of := range []string{"0", "1", "P 2 1", "L 3"} {
			callAll(s, typeOf(of))
		}
	}
	for _, x := range strangeTypes() {
		for _, y := range strangeTypes() {
			s := api.Store{Slots: []api.Slot{{Bound: true, Type: x}, {Bound: true, Type: y}, {Type: x}}, Trail: trail}
			callAll(s, x)
			callAll(s, types.Con("P", types.Var(0), y))
		}
	}
	for _, wrap := range []func(api.Type) api.Type{same, listOf, pairOf} {
		s := chain(100000, wrap)
		s.Slots[0] = api.Slot{Bound: true, Type: wrap(types.Var(99999))}
		x := types.Var(5)
		Walk(s, x)
		Size(s, x, math.MaxInt)
		Resolve(s, x)
		Vars(s, x)
	}
}

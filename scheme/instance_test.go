package scheme

import (
	"slices"
	"strings"
	"testing"

	"typedholes/api"
	"typedholes/types"
)

// P14.2: Instance of a few schemes; no is written where there is none.
func TestInstance(t *testing.T) {
	for _, c := range []struct{ c, words, want string }{
		{"0 Int", "Int", ""},
		{"0 Int", "T", "no"},
		{"0 Int", "0", "no"},
		{"0 0", "0", ""},
		{"0 0", "1", "no"}, // a free variable stands for itself
		{"0 0", "Int", "no"},
		{"0 r0.1", "r0.1", ""},
		{"0 r0.1", "r1.1", "no"}, {"0 r0.1", "r0.2", "no"}, {"0 r0.1", "1", "no"}, {"0 r0.1", "b1", "no"},
		{"1 b0", "Int", "Int"},
		{"1 b0", "0", "0"},
		{"1 b0", "b0", "b0"},
		{"1 b0", "b7", "b7"},
		{"1 b0", "x", "x"},
		{"1 b0", "-> 0 L b0", "-> 0 L b0"},
		{"2 -> b0 b1", "-> Int T", "Int; T"},
		{"2 -> b0 b1", "-> Int Int", "Int; Int"},
		{"2 -> b0 b1", "-> b1 b0", "b1; b0"},
		{"2 -> b0 b1", "-> T -> 0 1", "T; -> 0 1"},
		{"2 -> b0 b1", "P Int Int", "no"},
		{"2 -> b0 b1", "Int", "no"},
		{"2 -> b0 b1", "0", "no"},
		{"1 -> b0 b0", "-> Int Int", "Int"},
		{"1 -> b0 b0", "-> Int T", "no"},
		{"1 -> b0 b0", "-> L 0 L 0", "L 0"},
		{"1 -> b0 b0", "-> L 0 L 1", "no"},
		{"1 -> b0 b0", "-> b0 b1", "no"},
		{"1 -> b0 7", "-> Int 7", "Int"},
		{"1 -> b0 7", "-> 7 7", "7"},
		{"1 -> b0 7", "-> Int 8", "no"},
		{"1 -> b0 7", "-> Int Int", "no"},
		{"2 Q b0 P b1 b0 -> b1 r0.0", "Q L 0 P T L 0 -> T r0.0", "L 0; T"},
		{"2 Q b0 P b1 b0 -> b1 r0.0", "Q L 0 P T L 1 -> T r0.0", "no"},
		{"2 Q b0 P b1 b0 -> b1 r0.0", "Q L 0 P T L 0 -> L 0 r0.0", "no"},
		{"2 Q b0 P b1 b0 -> b1 r0.0", "Q L 0 P T L 0 -> T r0.1", "no"},
		{"2 Q b0 P b1 b0 -> b1 r0.0", "Q L 0 P T L 0 -> T b1", "no"},
	} {
		l, is := Instance(schemeOf(c.c), typeOf(c.words))
		got := writeTypes(l)
		if !is {
			got = "no" + got
		}
		if got != c.want {
			t.Errorf("Instance(%s, %s) = %s; want %s", c.c, c.words, got, c.want)
		}
	}
}

// P14.2: constructors of one name with different numbers of arguments differ.
func TestInstanceArity(t *testing.T) {
	of := func(count int) api.Type {
		return types.Con("L", types.Con("C", slices.Repeat([]api.Type{bound(0)}, count)...))
	}
	for i := range 4 {
		for k := range 4 {
			c := api.Scheme{Count: min(i, 1), Type: of(i)}
			if args, is := Instance(c, of(k)); is != (i == k) || !is && len(args) > 0 {
				t.Errorf("Instance(%+v, %+v) = %+v, %v", c, of(k), args, is)
			}
		}
	}
}

// parts lists the parts of a type.
func parts(x api.Type) []string {
	out := []string{write(x)}
	for _, arg := range x.Args {
		out = append(out, parts(arg)...)
	}
	return out
}

// searched looks for types with which the scheme that is written c opens to words,
// among all lists of parts of the type with these words: they are all such parts.
func searched(c, words string) ([]string, bool) {
	count, of, _ := strings.Cut(c, " ")
	all := parts(typeOf(words))
	slices.Sort(all)
	for _, args := range lists(number(count), slices.Compact(all)) {
		if opened(of, args) == words {
			return args, true
		}
	}
	return nil, false
}

// P14.2: Instance finds types exactly if there are any, and these.
func TestInstanceOfAll(t *testing.T) {
	count := map[bool]int{}
	l := append(sampleTypes(), "b0", "-> b0 b1", "-> b1 b0", "Q b0 b1 b0", "P L b0 L b0", "-> x x", "P L -> 0 1 L -> 0 1", "-> L b0 -> T L b0", "Q L 0 1 2", "Q Int Int T")
	for _, c := range sampleSchemes() {
		for _, words := range l {
			want, wantIs := searched(c, words)
			got, is := Instance(schemeOf(c), typeOf(words))
			if is != wantIs || writeTypes(got) != strings.Join(want, "; ") {
				t.Fatalf("Instance(%s, %s) = %s, %v; want %v, %v", c, words, writeTypes(got), is, want, wantIs)
			}
			count[is]++
		}
	}
	if count[true] < 200 || count[false] < 200 {
		t.Errorf("only %v", count)
	}
}

// P14.3: General of a few schemes.
func TestGeneral(t *testing.T) {
	for _, c := range []struct {
		a, b string
		want bool
	}{
		{"2 -> b0 b1", "1 -> b0 b0", true}, // the chapter's example
		{"1 -> b0 b0", "2 -> b0 b1", false},
		{"2 -> b0 b1", "2 -> b0 b1", true},
		{"1 b0", "0 Int", true},
		{"0 Int", "1 b0", false},
		{"1 b0", "2 -> b0 b1", true},
		{"2 -> b0 b1", "1 b0", false},
		{"1 b0", "0 4", true},
		{"0 4", "1 b0", false},
		{"0 4", "0 4", true}, {"0 4", "0 5", false}, {"0 4", "0 Int", false}, {"0 Int", "0 4", false},
		{"0 r0.1", "0 r0.1", true}, {"0 r0.1", "0 r1.1", false}, {"0 r0.1", "0 r0.2", false}, {"0 r0.0", "0 0", false}, {"0 0", "0 r0.0", false}, {"0 r0.0", "1 b0", false}, {"1 b0", "0 r0.0", true},
		{"1 -> b0 4", "1 -> b0 4", true},
		{"1 -> b0 4", "0 -> 4 4", true},
		{"1 -> b0 4", "0 -> 5 4", true},
		{"1 -> b0 4", "0 -> 4 5", false},
		{"1 -> b0 4", "1 -> 4 b0", false},
		{"1 -> b0 4", "2 -> b0 b1", false},
		{"1 -> b0 4", "1 -> b0 b0", false},
		{"1 P b0 b0", "1 P L b0 L b0", true},
		{"1 P b0 b0", "2 P L b0 L b1", false},
		{"2 P b0 b1", "2 P L b0 L b1", true},
		{"2 P b0 b1", "2 P L b0 b1", true},
		{"2 P L b0 b1", "2 P b0 L b1", false},
		{"2 -> P b0 b1 b0", "1 -> P L b0 b0 L b0", true},
		{"2 -> P b0 b1 b0", "1 -> P L b0 b0 b0", false},
		{"2 -> P b0 b1 b0", "2 -> P b0 b1 b1", false},
		{"1 Q b0 0 r0.0", "0 Q 0 0 r0.0", true},
		{"1 Q b0 0 r0.0", "0 Q 0 0 0", false},
	} {
		if got := General(schemeOf(c.a), schemeOf(c.b)); got != c.want {
			t.Errorf("General(%s, %s) is %v", c.a, c.b, got)
		}
	}
}

// P14.3: a scheme is at least as general as another one exactly if each instance of
// the other one is an instance of it. One instance decides this: the one with
// constants that occur nowhere else; but others are tried, too.
func TestGeneralByInstances(t *testing.T) {
	count := map[bool]int{}
	l := sampleSchemes()
	for _, b := range l {
		quantified, words, _ := strings.Cut(b, " ")
		instances := []string{opened(words, []string{"r7.1", "r7.2", "r7.3"})}
		for _, args := range lists(number(quantified), []string{"0", "L 1"}) {
			instances = append(instances, opened(words, args))
		}
		for _, a := range l {
			got := General(schemeOf(a), schemeOf(b))
			if _, want := searched(a, instances[0]); got != want {
				t.Fatalf("General(%s, %s) is %v", a, b, got)
			}
			for _, x := range instances {
				if _, is := Instance(schemeOf(a), typeOf(x)); got && !is {
					t.Fatalf("General(%s, %s), but %s is an instance of the second one alone", a, b, x)
				}
			}
			count[got]++
		}
	}
	if count[true] < 400 || count[false] < 400 {
		t.Errorf("only %v", count)
	}
}

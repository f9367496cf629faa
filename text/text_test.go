package text

import (
	"math"
	"slices"
	"strings"
	"testing"

	"typedholes/api"
)

// samples returns texts that were chosen by hand, and all texts of up to six
// bytes over an alphabet in which line feeds are frequent.
func samples() []string {
	out := []string{
		"let x = 1;", "let x = 1;\n", "a\r\nb\r\n", "\té\n日本\n", "\x00\xff\n\x80",
		strings.Repeat("\n", 50), strings.Repeat("word word\n", 50),
	}
	level := []string{""}
	for range 6 {
		out = append(out, level...)
		var next []string
		for _, s := range level {
			next = append(next, s+"x", s+"\n", s+"\r")
		}
		level = next
	}
	return append(out, level...)
}

// placeByTerms finds a place by the words of the chapter.
func placeByTerms(src string, pos int) (int, int) {
	before := src[:pos]
	begin := strings.LastIndexByte(before, '\n') + 1
	return strings.Count(before, "\n") + 1, len(before[begin:]) + 1
}

// P1.1: Place of offsets inside, at both ends and outside of a text.
func TestPlace(t *testing.T) {
	for _, c := range []struct {
		src            string
		pos, line, col int
	}{
		{"x\nyz", 3, 2, 2}, // the chapter's example
		{"", 0, 1, 1},
		{"", 1, 1, 1},
		{"", -1, 1, 1},
		{"abc", 0, 1, 1},
		{"abc", 2, 1, 3},
		{"abc", 3, 1, 4},
		{"abc", 4, 1, 4},
		{"abc", math.MaxInt, 1, 4},
		{"abc", -1, 1, 1},
		{"a\nbc", math.MinInt, 1, 1},
		{"a\nbc", math.MaxInt, 2, 3},
		{"a\nbc", 1, 1, 2}, // a line feed belongs to the line that it ends
		{"a\nbc", 2, 2, 1},
		{"\n", 0, 1, 1},
		{"\n", 1, 2, 1},
		{"\n\n\n", 2, 3, 1},
		{"\n\n\n", 3, 4, 1},
		{"a\r\nb", 2, 1, 3}, // a carriage return ends no line
		{"a\rb", 2, 1, 3},
		{"éa", 2, 1, 3}, // columns count bytes
		{"\n日x", 4, 2, 4},
		{"\xff\n\xff", 2, 2, 1},
	} {
		if line, col := Place(c.src, c.pos); line != c.line || col != c.col {
			t.Errorf("Place(%q, %d) = %d, %d; want %d, %d", c.src, c.pos, line, col, c.line, c.col)
		}
	}
}

// P1.1: Place agrees with the terms of the chapter for all offsets, and counts
// those outside as the ends.
func TestPlaceOfAllOffsets(t *testing.T) {
	for _, src := range samples() {
		for pos := -2; pos <= len(src)+2; pos++ {
			line, col := Place(src, pos)
			wantLine, wantCol := placeByTerms(src, min(max(pos, 0), len(src)))
			if line != wantLine || col != wantCol {
				t.Fatalf("Place(%q, %d) = %d, %d; want %d, %d", src, pos, line, col, wantLine, wantCol)
			}
		}
	}
}

// P1.1: Offset of places that exist and of places that do not.
func TestOffset(t *testing.T) {
	for _, c := range []struct {
		src            string
		line, col, pos int
		is             bool
	}{
		{"x\nyz", 2, 2, 3, true},
		{"", 1, 1, 0, true},
		{"abc", 1, 1, 0, true},
		{"abc", 1, 4, 3, true}, // the end of the text
		{"a\nbc", 1, 2, 1, true},
		{"a\nbc", 2, 1, 2, true},
		{"a\nbc", 2, 3, 4, true},
		{"a\n", 2, 1, 2, true},
		{"\n\n", 2, 1, 1, true},
		{"é\nb", 1, 3, 2, true},
		{"", 1, 2, 0, false},
		{"", 2, 1, 0, false},
		{"", 0, 0, 0, false},
		{"abc", 1, 5, 0, false},
		{"abc", 2, 1, 0, false},
		{"abc", 1, 0, 0, false},
		{"abc", 1, -1, 0, false},
		{"abc", 0, 1, 0, false},
		{"abc", -1, 1, 0, false},
		{"a\nbc", 1, 3, 0, false}, // the column behind a line feed is in the next line
		{"a\nbc", 2, 0, 0, false}, // the column before a line is not in the previous one
		{"a\nbc", 2, 4, 0, false},
		{"a\nbc", 3, 1, 0, false},
		{"a\n", 2, 2, 0, false},
		{"a\n", 3, 1, 0, false},
		{"a\nbc", 2, math.MaxInt, 0, false},
		{"a\nbc", math.MaxInt, 1, 0, false},
		{"a\nbc", math.MaxInt, math.MaxInt, 0, false},
		{"a\nbc", 2, math.MinInt, 0, false},
		{"a\nbc", math.MinInt, 1, 0, false},
		{"a\nbc", math.MinInt, math.MinInt, 0, false},
	} {
		if pos, is := Offset(c.src, c.line, c.col); pos != c.pos || is != c.is {
			t.Errorf("Offset(%q, %d, %d) = %d, %v; want %d, %v", c.src, c.line, c.col, pos, is, c.pos, c.is)
		}
	}
}

// P1.1: Offset finds an offset exactly if Place gives some offset that place.
func TestOffsetOfAllPlaces(t *testing.T) {
	for _, src := range samples() {
		found := map[[2]int]int{}
		for pos := range len(src) + 1 {
			line, col := placeByTerms(src, pos)
			found[[2]int{line, col}] = pos
		}
		for line := -1; line <= strings.Count(src, "\n")+3; line++ {
			for col := -1; col <= len(src)+3; col++ {
				want, wantIs := found[[2]int{line, col}]
				if pos, is := Offset(src, line, col); pos != want || is != wantIs {
					t.Fatalf("Offset(%q, %d, %d) = %d, %v; want %d, %v", src, line, col, pos, is, want, wantIs)
				}
			}
		}
	}
}

// P1.2: Lines of texts with and without line feeds.
func TestLines(t *testing.T) {
	for _, c := range []struct {
		src  string
		want []string
	}{
		{"", []string{""}},
		{"a", []string{"a"}},
		{"\n", []string{"", ""}},
		{"a\n", []string{"a", ""}},
		{"\na", []string{"", "a"}},
		{"x\nyz", []string{"x", "yz"}},
		{"a\n\nb", []string{"a", "", "b"}},
		{"\n\n\n", []string{"", "", "", ""}},
		{"a\r\nb\rc", []string{"a\r", "b\rc"}},
		{"é\n\xff\n\x00 ", []string{"é", "\xff", "\x00 "}},
		{"a\v\f\u0085\u2028b", []string{"a\v\f\u0085\u2028b"}},
	} {
		if got := Lines(c.src); !slices.Equal(got, c.want) {
			t.Errorf("Lines(%q) = %q; want %q", c.src, got, c.want)
		}
	}
}

// P1.2: a text with n line feeds has n + 1 lines, and no line contains one.
func TestLinesCount(t *testing.T) {
	for _, src := range samples() {
		lines := Lines(src)
		if len(lines) != strings.Count(src, "\n")+1 {
			t.Fatalf("Lines(%q) has %d lines", src, len(lines))
		}
		for _, l := range lines {
			if strings.Contains(l, "\n") {
				t.Fatalf("Lines(%q) has the line %q", src, l)
			}
		}
	}
}

// P1.2: Number of all sizes of numbers.
func TestNumber(t *testing.T) {
	for n, want := range map[int]string{
		0: "0", 1: "1", 9: "9", 10: "10", 45: "45", 100: "100", 1000000: "1000000",
		-1: "-1", -7: "-7", -10: "-10", -120: "-120",
		math.MaxInt32: "2147483647", math.MinInt32: "-2147483648",
		math.MaxInt64: "9223372036854775807", math.MinInt64: "-9223372036854775808",
	} {
		if got := Number(n); got != want {
			t.Errorf("Number(%d) = %q; want %q", n, got, want)
		}
	}
}

// P1.3: Describe of errors inside and outside of a text, and of no error.
func TestDescribe(t *testing.T) {
	for _, c := range []struct {
		src  string
		f    api.Fault
		want string
	}{
		{"x\nabcdef", api.Fault{Err: api.ErrScope, Pos: 6}, "2:5: error 9"},
		{"", api.Fault{Err: api.ErrLong}, "1:1: error 1"},
		{"let x = 1 2;", api.Fault{Err: api.ErrMismatch, Pos: 8}, "1:9: error 11"},
		{"a\nb", api.Fault{Err: api.ErrGoal, Pos: 1}, "1:2: error 21"},
		{"a\nb", api.Fault{Err: api.ErrSyntax, Pos: 3}, "2:2: error 3"},
		{"a\nb", api.Fault{Err: api.ErrSyntax, Pos: 400}, "2:2: error 3"},
		{"a\nb", api.Fault{Err: api.ErrSyntax, Pos: math.MaxInt}, "2:2: error 3"},
		{"a\nb", api.Fault{Err: api.ErrSyntax, Pos: -5}, "1:1: error 3"},
		{strings.Repeat("\n", 11) + "0123456789", api.Fault{Err: api.ErrState, Pos: 21}, "12:11: error 20"},
		{"a", api.Fault{Err: 77, Pos: 0}, "1:1: error 77"},
		{"a", api.Fault{Err: -2, Pos: 1}, "1:2: error -2"},
		{"a", api.Fault{}, ""},
		{"a\nb", api.Fault{Pos: 2}, ""},
		{"", api.Fault{Pos: -1}, ""},
	} {
		if got := Describe(c.src, c.f); got != c.want {
			t.Errorf("Describe(%q, %v) = %q; want %q", c.src, c.f, got, c.want)
		}
	}
}

// P1.4: Offset undoes Place, and joining undoes Lines.
func TestConsequences(t *testing.T) {
	for _, src := range samples() {
		for pos := range len(src) + 1 {
			line, col := Place(src, pos)
			if got, is := Offset(src, line, col); !is || got != pos {
				t.Fatalf("Offset(%q, %d, %d) = %d, %v; want %d", src, line, col, got, is, pos)
			}
		}
		if got := strings.Join(Lines(src), "\n"); got != src {
			t.Fatalf("the lines of %q join to %q", src, got)
		}
	}
}

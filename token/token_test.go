package token

import (
	"math"
	"regexp"
	"slices"
	"strings"
	"testing"

	"typedholes/api"
)

// The texts of the chapter's terms, written a second time as patterns.
var (
	blankPattern  = regexp.MustCompile(`^([ \t\r\n]|#[^\n]*)`)
	markPattern   = regexp.MustCompile(`^(\\|\.|=|;|:|\||\(|\)|\{|\}|\?|->)`)
	wordPattern   = regexp.MustCompile(`^[a-zA-Z0-9_]+`)
	kindsPatterns = []*regexp.Regexp{
		api.TokenLower: regexp.MustCompile(`^[a-z][a-zA-Z0-9_]{0,11}$`),
		api.TokenUpper: regexp.MustCompile(`^[A-Z][a-zA-Z0-9_]{0,11}$`),
		api.TokenInt:   regexp.MustCompile(`^(0|[1-9][0-9]{0,8})$`),
		api.TokenWord:  regexp.MustCompile(`^(data|let|rec|in|case|of|end)$`),
		api.TokenMark:  regexp.MustCompile(markPattern.String() + `$`),
	}
)

// kindByTerms returns the kind of the token with a text, 0 if there is none.
func kindByTerms(text string) int {
	for _, kind := range []int{api.TokenWord, api.TokenLower, api.TokenUpper, api.TokenInt, api.TokenMark} {
		if kindsPatterns[kind].MatchString(text) {
			return kind
		}
	}
	return 0
}

// scanByTerms scans a text by the patterns.
func scanByTerms(src string) ([]api.Token, api.Fault) {
	if len(src) > 4000 {
		return nil, api.Fault{Err: api.ErrLong}
	}
	var out []api.Token
	for pos := 0; pos < len(src); {
		if s := blankPattern.FindString(src[pos:]); s != "" {
			pos += len(s)
			continue
		}
		s := wordPattern.FindString(src[pos:]) + markPattern.FindString(src[pos:])
		if kindByTerms(s) == 0 {
			return nil, api.Fault{Err: api.ErrLexical, Pos: pos}
		}
		out = append(out, api.Token{Kind: kindByTerms(s), Text: s, Pos: pos})
		pos += len(s)
	}
	return out, api.Fault{}
}

// texts returns all texts of up to size of the parts.
func texts(size int, parts ...string) []string {
	level := []string{""}
	out := []string{""}
	for range size {
		var next []string
		for _, s := range level {
			for _, p := range parts {
				next = append(next, s+p)
			}
		}
		out = append(out, next...)
		level = next
	}
	return out
}

// bare returns the tokens without their offsets.
func bare(l []api.Token) []api.Token {
	out := slices.Clone(l)
	for i := range out {
		out[i].Pos = 0
	}
	return out
}

// checkScan compares a scan of src with the patterns.
func checkScan(t *testing.T, src string) {
	t.Helper()
	got, fault := Scan(src)
	want, wantFault := scanByTerms(src)
	if !slices.Equal(got, want) || fault != wantFault {
		t.Fatalf("Scan(%.80q) = %v, %v; want %v, %v", src, got, fault, want, wantFault)
	}
}

// P2.1: the tokens of texts with all kinds of them.
func TestScan(t *testing.T) {
	lower := func(text string, pos int) api.Token { return api.Token{Kind: api.TokenLower, Text: text, Pos: pos} }
	upper := func(text string, pos int) api.Token { return api.Token{Kind: api.TokenUpper, Text: text, Pos: pos} }
	number := func(text string, pos int) api.Token { return api.Token{Kind: api.TokenInt, Text: text, Pos: pos} }
	word := func(text string, pos int) api.Token { return api.Token{Kind: api.TokenWord, Text: text, Pos: pos} }
	mark := func(text string, pos int) api.Token { return api.Token{Kind: api.TokenMark, Text: text, Pos: pos} }
	for _, c := range []struct {
		src  string
		want []api.Token
	}{
		{`\x.x`, []api.Token{mark(`\`, 0), lower("x", 1), mark(".", 2), lower("x", 3)}}, // the chapter's example
		{"", nil},
		{" \t\r\n", nil},
		{"# only a comment", nil},
		{"#", nil},
		{"#\n#\n", nil},
		{"x", []api.Token{lower("x", 0)}},
		{" x ", []api.Token{lower("x", 1)}},
		{"\n\tMap_2x\r\n", []api.Token{upper("Map_2x", 2)}},
		{"a1B_", []api.Token{lower("a1B_", 0)}},
		{"a#b\nc", []api.Token{lower("a", 0), lower("c", 4)}},
		{"a# \xff\x00 - é\nc", []api.Token{lower("a", 0), lower("c", 11)}},
		{"a #b\rc\td", []api.Token{lower("a", 0)}}, // only a line feed ends a comment
		{"a # b # c\n# d\nE", []api.Token{lower("a", 0), upper("E", 14)}},
		{"data let rec in case of end", []api.Token{word("data", 0), word("let", 5), word("rec", 9), word("in", 13), word("case", 16), word("of", 21), word("end", 24)}},
		{"Data lets rec_ in1 CASE oF endend", []api.Token{upper("Data", 0), lower("lets", 5), lower("rec_", 10), lower("in1", 15), upper("CASE", 19), lower("oF", 24), lower("endend", 27)}},
		{`\.=;:|(){}?->`, []api.Token{mark(`\`, 0), mark(".", 1), mark("=", 2), mark(";", 3), mark(":", 4), mark("|", 5), mark("(", 6), mark(")", 7), mark("{", 8), mark("}", 9), mark("?", 10), mark("->", 11)}},
		{"a->->B", []api.Token{lower("a", 0), mark("->", 1), mark("->", 3), upper("B", 5)}},
		{"0 1 10 999999999", []api.Token{number("0", 0), number("1", 2), number("10", 4), number("999999999", 7)}},
		{"(1:Int)", []api.Token{mark("(", 0), number("1", 1), mark(":", 2), upper("Int", 3), mark(")", 6)}},
		{"abcdefghijkl ABCDEFGHIJKL", []api.Token{lower("abcdefghijkl", 0), upper("ABCDEFGHIJKL", 13)}},
	} {
		if got, fault := Scan(c.src); !slices.Equal(got, c.want) || fault != (api.Fault{}) {
			t.Errorf("Scan(%q) = %v, %v; want %v", c.src, got, fault, c.want)
		}
	}
}

// P2.1: the first byte that begins no token, and nothing beside it.
func TestScanErrors(t *testing.T) {
	for _, c := range []struct {
		src string
		pos int
	}{
		{"01", 0}, // the chapter's example
		{"00", 0},
		{"x 007 y", 2},
		{"1234567890", 0},
		{"1x", 0},
		{"1_", 0},
		{"1_000", 0},
		{"12X", 0},
		{"0x1", 0},
		{"_", 0},
		{"_x", 0},
		{"a _", 2},
		{"abcdefghijklm", 0},
		{"ABCDEFGHIJKLM", 0},
		{"x ABCDEFGHIJKL_", 2},
		{"->-", 2},
		{"-->", 0},
		{"- >", 0},
		{"-\n>", 0},
		{"-#\n>", 0},
		{"x-", 1},
		{">", 0},
		{"=>", 1},
		{"a-1", 1},
		{"a+b", 1},
		{"a,b", 1},
		{"[", 0},
		{"x\"", 1},
		{"x'", 1},
		{"é", 0},
		{"xé", 1},
		{"a\u00a0b", 1}, // white space is ASCII only
		{"a\vb", 1},
		{"a\fb", 1},
		{"\x00", 0},
		{"a\x7f", 1},
		{"a\xff", 1},
		{"#-\n-", 3},
		{"# \n 01 -", 4}, // the first one of two
		{"- 01", 0},
		{strings.Repeat("x ", 1999) + " -", 3999},
	} {
		want := api.Fault{Err: api.ErrLexical, Pos: c.pos}
		if got, fault := Scan(c.src); len(got) != 0 || fault != want {
			t.Errorf("Scan(%.80q) = %v, %v; want %v", c.src, got, fault, want)
		}
	}
}

// P2.1: texts of MaxSource bytes are scanned; for longer ones ErrLong comes
// before any other error.
func TestScanLong(t *testing.T) {
	for _, part := range []string{"x", " ", "x ", "(", "#", "\n", "-", "->", "\xff", "01 "} {
		for _, size := range []int{3999, 4000, 4001, 4002, 9000} {
			checkScan(t, strings.Repeat(part, size)[:size])
		}
	}
	got, fault := Scan(strings.Repeat("(", 4000))
	if len(got) != 4000 || fault != (api.Fault{}) || got[3999] != (api.Token{Kind: api.TokenMark, Text: "(", Pos: 3999}) {
		t.Errorf("a text of MaxSource bytes has %d tokens and %v", len(got), fault)
	}
	got, fault = Scan(strings.Repeat("-", 4001))
	if len(got) != 0 || fault != (api.Fault{Err: api.ErrLong}) {
		t.Errorf("a text of MaxSource + 1 bytes has %d tokens and %v", len(got), fault)
	}
}

// P2.1: Scan agrees with the patterns for all texts of one or two bytes, and for
// all short ones over parts that were chosen by hand.
func TestScanOfAllTexts(t *testing.T) {
	for a := range 256 {
		checkScan(t, string([]byte{byte(a)}))
		for b := range 256 {
			checkScan(t, string([]byte{byte(a), byte(b)}))
		}
	}
	for _, src := range texts(4, "a", "B", "0", "7", "_", "-", ">", "#", "\n", " ", "(", "let", "\xff") {
		checkScan(t, src)
	}
	for _, src := range texts(3, "12345678", "9", "0", "abcdefghijk", "A", "of", "_", " ") {
		checkScan(t, src)
	}
}

// P2.2: Valid of tokens of each kind at the bounds of their offsets.
func TestValid(t *testing.T) {
	for _, c := range []struct {
		t    api.Token
		want bool
	}{
		{api.Token{Kind: api.TokenLower, Text: "x"}, true},
		{api.Token{Kind: api.TokenLower, Text: "x", Pos: 3999}, true},
		{api.Token{Kind: api.TokenLower, Text: "x", Pos: 4000}, false},
		{api.Token{Kind: api.TokenLower, Text: "x", Pos: -1}, false},
		{api.Token{Kind: api.TokenLower, Text: "x", Pos: math.MaxInt}, false},
		{api.Token{Kind: api.TokenLower, Text: "x", Pos: math.MinInt}, false},
		{api.Token{Kind: api.TokenMark, Text: "->", Pos: 3998}, true},
		{api.Token{Kind: api.TokenMark, Text: "->", Pos: 3999}, true}, // the offset's bound is the same for all texts
		{api.Token{}, false},
		{api.Token{Text: " "}, false},
		{api.Token{Text: "_"}, false},
		{api.Token{Kind: -1, Text: " "}, false},
		{api.Token{Kind: -1, Text: "#"}, false},
		{api.Token{Kind: 6, Text: "x"}, false},
		{api.Token{Kind: math.MaxInt, Text: "x"}, false},
		{api.Token{Kind: math.MinInt, Text: "x"}, false},
	} {
		if got := Valid(c.t); got != c.want {
			t.Errorf("Valid(%+v) = %v", c.t, got)
		}
	}
}

// P2.2: a text is valid for the kind of its token, and for no other.
func TestValidOfKinds(t *testing.T) {
	for text, want := range map[string]int{
		"x": api.TokenLower, "a1B_": api.TokenLower, "lets": api.TokenLower, "abcdefghijkl": api.TokenLower,
		"X": api.TokenUpper, "Let": api.TokenUpper, "ABCDEFGHIJKL": api.TokenUpper,
		"0": api.TokenInt, "10": api.TokenInt, "999999999": api.TokenInt,
		"data": api.TokenWord, "let": api.TokenWord, "rec": api.TokenWord, "in": api.TokenWord, "case": api.TokenWord, "of": api.TokenWord, "end": api.TokenWord,
		`\`: api.TokenMark, ".": api.TokenMark, "=": api.TokenMark, ";": api.TokenMark, ":": api.TokenMark, "|": api.TokenMark,
		"(": api.TokenMark, ")": api.TokenMark, "{": api.TokenMark, "}": api.TokenMark, "?": api.TokenMark, "->": api.TokenMark,
		"": 0, " ": 0, "\n": 0, "#": 0, "#x": 0, "-": 0, ">": 0, "--": 0, "- >": 0, "->>": 0, "->->": 0, "((": 0,
		"_": 0, "_x": 0, "01": 0, "00": 0, "1x": 0, "1234567890": 0, "+1": 0, "-1": 0,
		"abcdefghijklm": 0, "ABCDEFGHIJKLM": 0, "x y": 0, "x ": 0, " x": 0, "x\n": 0, "x.": 0, ".x": 0, "let in": 0, "let#": 0,
		"é": 0, "xé": 0, "\xff": 0, "x\x00": 0, strings.Repeat("x", 5000): 0,
	} {
		for kind := -2; kind <= 7; kind++ {
			if got := Valid(api.Token{Kind: kind, Text: text}); got != (kind == want && want != 0) {
				t.Errorf("Valid of %.20q with the kind %d is %v", text, kind, got)
			}
		}
	}
	for _, text := range texts(3, "a", "B", "0", "7", "_", "-", ">", "#", "\n", " ", "(", "let", "\xff") {
		for kind := -2; kind <= 7; kind++ {
			if got := Valid(api.Token{Kind: kind, Text: text}); got != (kind > 0 && kind == kindByTerms(text)) {
				t.Errorf("Valid of %q with the kind %d is %v", text, kind, got)
			}
		}
	}
}

// P2.2: every token of a result of Scan is valid.
func TestValidOfScan(t *testing.T) {
	for _, src := range append(texts(4, "a", "B", "0", "->", "#", "\n", " ", "(", "let"), strings.Repeat("?", 4000)) {
		l, _ := Scan(src)
		for _, x := range l {
			if !Valid(x) {
				t.Fatalf("Scan(%.80q) has the token %+v", src, x)
			}
		}
	}
}

// P2.2: Join of lists with and without tokens that are not valid.
func TestJoin(t *testing.T) {
	x := api.Token{Kind: api.TokenLower, Text: "x", Pos: 7}
	arrow := api.Token{Kind: api.TokenMark, Text: "->", Pos: 3}
	bad := api.Token{Kind: api.TokenUpper, Text: "x"}
	for _, c := range []struct {
		l    []api.Token
		want string
	}{
		{nil, ""},
		{[]api.Token{}, ""},
		{[]api.Token{x}, "x"},
		{[]api.Token{x, x}, "x x"},
		{[]api.Token{x, arrow, x}, "x -> x"}, // the offsets play no part
		{[]api.Token{bad}, ""},
		{[]api.Token{bad, x}, ""},
		{[]api.Token{x, bad}, ""},
		{[]api.Token{x, bad, x}, ""},
		{[]api.Token{x, {Kind: api.TokenLower, Text: "x", Pos: 4000}}, ""},
		{[]api.Token{x, {}}, ""},
		{slices.Repeat([]api.Token{x}, 3000), strings.Repeat("x ", 2999) + "x"}, // also longer than a text
	} {
		before := slices.Clone(c.l)
		if got := Join(c.l); got != c.want {
			t.Errorf("Join(%.80v) = %.80q; want %.80q", c.l, got, c.want)
		}
		if !slices.Equal(c.l, before) {
			t.Errorf("Join has changed its argument to %.80v", c.l)
		}
	}
}

// P2.3: Scan undoes Join, up to the offsets.
func TestScanOfJoin(t *testing.T) {
	parts := []string{"x", "lets", "let", "in", "X", "0", "12", "->", "?", `\`, ".", "(", "abcdefghijkl"}
	level := [][]api.Token{nil}
	for range 4 {
		var next [][]api.Token
		for _, l := range level {
			for _, p := range parts {
				next = append(next, append(slices.Clone(l), api.Token{Kind: kindByTerms(p), Text: p, Pos: 5}))
			}
		}
		for _, l := range next {
			if got, fault := Scan(Join(l)); !slices.Equal(bare(got), bare(l)) || fault != (api.Fault{}) {
				t.Fatalf("Scan(%q) = %v, %v", Join(l), got, fault)
			}
		}
		level = next
	}
}

// P2.3: a list whose Join has MaxSource bytes, and one that is longer.
func TestScanOfLongJoin(t *testing.T) {
	l := append(slices.Repeat([]api.Token{{Kind: api.TokenUpper, Text: "X"}}, 1999), api.Token{Kind: api.TokenMark, Text: "->"})
	if s := Join(l); len(s) != 4000 {
		t.Fatalf("Join has %d bytes", len(s))
	}
	if got, fault := Scan(Join(l)); !slices.Equal(bare(got), l) || fault != (api.Fault{}) {
		t.Errorf("Scan of MaxSource bytes returns %d tokens and %v", len(got), fault)
	}
	l[1999] = api.Token{Kind: api.TokenLower, Text: "end_"}
	if got, fault := Scan(Join(l)); len(got) != 0 || fault != (api.Fault{Err: api.ErrLong}) {
		t.Errorf("Scan of more than MaxSource bytes returns %d tokens and %v", len(got), fault)
	}
}

// P2.3: other white space and comments in the same places do not matter.
func TestOtherWhiteSpace(t *testing.T) {
	const src = "data~Nat~=Zero|~Succ~Nat;~let~rec~f:Nat->Nat=~\\x.~case x of~Zero.{0}|Succ y.f~(y:Nat)~end;~"
	want, fault := Scan(strings.ReplaceAll(src, "~", " "))
	if len(want) == 0 || fault != (api.Fault{}) {
		t.Fatalf("Scan = %v, %v", want, fault)
	}
	for _, blank := range []string{"\t", "\r", "\n", "\r\n", "  ", "\n\n\n", "#\n", "# -> 01 \xff\n", "#a#b\n\t#c\r\n", " # let\n "} {
		got, fault := Scan(strings.ReplaceAll(src, "~", blank))
		if !slices.Equal(bare(got), bare(want)) || fault != (api.Fault{}) {
			t.Errorf("with %q between the tokens they are %v, %v", blank, got, fault)
		}
	}
}

package readprogram

import (
	"slices"
	"strconv"
	"strings"
	"testing"

	"typedholes/api"
	"typedholes/tree"
	"typedholes/types"
)

// The texts below have one letter for each token: x is a lower and C an upper
// name, 1 an integer, > the mark ->, l let, r rec, i in, c case, o of, e end and
// d data. Other letters are marks.
const letters = "xC1?(){}\\.:|=>;lriocde"

// grammar is that of the chapters 5 to 7, with one letter for each of its names,
// too: D is a program, S a declaration, B a constructor and K are further ones; E
// is an expression, N an arm and M are further ones, V are variables, T is an atom
// and Z are its arguments; Y is a type, P an applied one, Q are its arguments and
// R is one of them. G, H, F and W are the parts that can be missing: rec, a
// signature, an annotation, and an arrow.
var grammar = map[byte][]string{
	'D': {"", "SD"},
	'S': {"dCV=BK;", "lGxH=E;"},
	'B': {"CQ"},
	'K': {"", "|BK"},
	'G': {"", "r"},
	'H': {"", ":Y"},
	'E': {`\x.E`, "lGx=EiE", "cEoNMe", "TZ"},
	'N': {"CV.E"},
	'M': {"", "|NM"},
	'V': {"", "xV"},
	'Z': {"", "TZ"},
	'T': {"x", "C", "1", "?", "(EF", "{E}"},
	'F': {")", ":Y)"},
	'Y': {"PW"},
	'W': {"", ">Y"},
	'P': {"x", "(Y)", "CQ"},
	'Q': {"", "RQ"},
	'R': {"x", "C", "(Y)"},
}

// derivation returns the rules by which a text can be derived from a form, each
// applied to the first name that is left, and whether there are any. Otherwise it
// returns how many letters at the end of the text are left at least: from each
// name something can be derived, so that those before them begin a text of the
// form.
func derivation(form, text string) (rules []string, left int, ok bool) {
	if form == "" {
		return nil, len(text), text == ""
	}
	options, isName := grammar[form[0]]
	if !isName {
		if text == "" || text[0] != form[0] {
			return nil, len(text), false
		}
		return derivation(form[1:], text[1:])
	}
	left = len(text)
	for _, rule := range options {
		rest, size, ok := derivation(rule+form[1:], text)
		if ok {
			return append([]string{rule}, rest...), 0, true
		}
		left = min(left, size)
	}
	return nil, left, false
}

// piece is what was derived from a name: the rule, the tokens of the rule's own
// letters, and the parts of its names.
type piece struct {
	rule   string
	tokens []api.Token
	parts  []piece
}

// builder makes pieces from a derivation and its tokens, in order.
type builder struct {
	rules  []string
	tokens []api.Token
}

func (b *builder) piece() piece {
	p := piece{rule: b.rules[0]}
	b.rules = b.rules[1:]
	for i := range len(p.rule) {
		if _, isName := grammar[p.rule[i]]; isName {
			p.parts = append(p.parts, b.piece())
			continue
		}
		p.tokens = append(p.tokens, b.tokens[0])
		b.tokens = b.tokens[1:]
	}
	return p
}

func (p piece) program() api.Program {
	var out api.Program
	for ; p.rule != ""; p = p.parts[1] {
		s := p.parts[0]
		if s.rule == "lGxH=E;" {
			out.Binds = append(out.Binds, s.bind())
			continue
		}
		d := api.Data{Pos: s.tokens[0].Pos, Name: s.tokens[1].Text, Params: s.parts[0].vars(), Constructors: []api.Constructor{s.parts[1].constructor()}}
		for k := s.parts[2]; k.rule != ""; k = k.parts[1] {
			d.Constructors = append(d.Constructors, k.parts[0].constructor())
		}
		out.Datas = append(out.Datas, d)
	}
	return out
}

func (p piece) bind() api.Bind {
	b := api.Bind{Pos: p.tokens[0].Pos, Name: p.tokens[1].Text, Body: p.parts[2].expr()}
	b.Rec = p.parts[0].rule == "r"
	if p.parts[1].rule != "" {
		b.HasSig, b.Sig = true, p.parts[1].parts[0].typ()
	}
	return b
}

func (p piece) constructor() api.Constructor {
	return api.Constructor{Pos: p.tokens[0].Pos, Name: p.tokens[0].Text, Fields: p.parts[0].args()}
}

func (p piece) expr() api.Expr {
	if p.rule == "TZ" {
		e := p.parts[0].expr()
		for z := p.parts[1]; z.rule != ""; z = z.parts[1] {
			e = app(e.Pos, e, z.parts[0].expr())
		}
		return e
	}
	first := p.tokens[0]
	switch p.rule {
	case `\x.E`:
		return lam(first.Pos, p.tokens[1].Text, p.parts[0].expr())
	case "lGx=EiE":
		if p.parts[0].rule == "r" {
			return rec(first.Pos, p.tokens[1].Text, p.parts[1].expr(), p.parts[2].expr())
		}
		return let(first.Pos, p.tokens[1].Text, p.parts[1].expr(), p.parts[2].expr())
	case "cEoNMe":
		arms := []api.Arm{p.parts[1].arm()}
		for m := p.parts[2]; m.rule != ""; m = m.parts[1] {
			arms = append(arms, m.parts[0].arm())
		}
		return cases(first.Pos, p.parts[0].expr(), arms...)
	case "x":
		return v(first.Pos, first.Text)
	case "C":
		return con(first.Pos, first.Text)
	case "1":
		n, _ := strconv.Atoi(first.Text)
		return num(first.Pos, n)
	case "?":
		return hole(first.Pos)
	case "{E}":
		return held(first.Pos, p.parts[0].expr())
	}
	if p.parts[1].rule == ")" {
		return p.parts[0].expr()
	}
	return ann(first.Pos, p.parts[0].expr(), p.parts[1].parts[0].typ())
}

func (p piece) arm() api.Arm {
	return arm(p.tokens[0].Pos, p.tokens[0].Text, p.parts[1].expr(), p.parts[0].vars()...)
}

func (p piece) vars() []string {
	var out []string
	for ; p.rule != ""; p = p.parts[0] {
		out = append(out, p.tokens[0].Text)
	}
	return out
}

func (p piece) typ() api.Type {
	switch p.rule {
	case "PW":
		if p.parts[1].rule != "" {
			return types.Arrow(p.parts[0].typ(), p.parts[1].parts[0].typ())
		}
	case "x":
		return name(p.tokens[0].Text)
	case "C":
		return types.Con(p.tokens[0].Text)
	case "CQ":
		return types.Con(p.tokens[0].Text, p.parts[0].args()...)
	}
	return p.parts[0].typ()
}

func (p piece) args() []api.Type {
	var out []api.Type
	for ; p.rule != ""; p = p.parts[1] {
		out = append(out, p.parts[0].typ())
	}
	return out
}

// random is a sequence of numbers that looks like chance, and is always the same.
type random uint32

func (r *random) below(n int) int {
	*r = *r*1664525 + 1013904223
	return int(*r>>16) % n
}

// tokensOf returns the tokens of a text, without offsets. No name occurs twice.
func tokensOf(text string) []api.Token {
	words := map[byte]string{'l': "let", 'r': "rec", 'i': "in", 'c': "case", 'o': "of", 'e': "end", 'd': "data", '>': "->"}
	var l []api.Token
	for i := range len(text) {
		t := api.Token{Kind: api.TokenMark, Text: text[i : i+1]}
		if word := words[text[i]]; word != "" {
			t.Text = word
		}
		switch text[i] {
		case 'x', 'C':
			t.Text += strconv.Itoa(i)
		case '1':
			t.Text = strconv.Itoa(i)
		}
		l = append(l, t)
	}
	return l
}

func isWordToken(t api.Token) bool {
	c := t.Text[0]
	return 'a' <= c && c <= 'z' || 'A' <= c && c <= 'Z' || '0' <= c && c <= '9'
}

// place returns a source text of tokens, with white space and comments between
// them that are chosen by r, and the tokens with their offsets in it.
func place(l []api.Token, r *random) (string, []api.Token) {
	blanks := []string{" ", "\n", "\t", "\r\n", "  \n ", "# let x = ; $\n", " #\n", " #(\r\n\t"}
	src := ""
	l = slices.Clone(l)
	for i := range l {
		if blank := r.below(len(blanks) + 4); blank < len(blanks) {
			src += blanks[blank]
		} else if i > 0 && isWordToken(l[i-1]) && isWordToken(l[i]) {
			src += " "
		}
		l[i].Pos = len(src)
		src += l[i].Text
	}
	return src + []string{"", "\n", " # end", "\t"}[r.below(4)], l
}

// unexpected returns the error of the tokens of a text that cannot be derived,
// where this many of them are left.
func unexpected(l []api.Token, left int) api.Fault {
	fault := api.Fault{Err: api.ErrSyntax}
	if left > 0 {
		fault.Pos = l[len(l)-left].Pos
	} else if len(l) > 0 {
		fault.Pos = l[len(l)-1].Pos + len(l[len(l)-1].Text)
	}
	return fault
}

// compare parses the texts of a form that have one letter for each token, and
// compares the results with those of the grammar.
func compare(t *testing.T, form, text string, r *random) {
	t.Helper()
	src, l := place(tokensOf(text), r)
	rules, left, ok := derivation(form, text)
	if !ok {
		compareParsed(t, form, src, piece{}, unexpected(l, left))
		return
	}
	b := builder{rules: rules, tokens: l}
	compareParsed(t, form, src, b.piece(), api.Fault{})
}

// compareParsed compares what is parsed with the whole part, unless there is an
// error.
func compareParsed(t *testing.T, form, src string, whole piece, fault api.Fault) {
	t.Helper()
	if len(src) > api.MaxSource {
		fault = api.Fault{Err: api.ErrLong}
	}
	switch form {
	case "D":
		want := api.Program{}
		if fault == (api.Fault{}) {
			want = whole.program()
			fault = firstLimit(want)
		}
		if fault != (api.Fault{}) {
			want = api.Program{}
		}
		if got, f := Parse(src); f != fault || !identicalPrograms(got, want) {
			t.Fatalf("Parse(%q) = %+v, %+v; want %+v, %+v", src, got, f, want, fault)
		}
	case "E":
		want := api.Expr{}
		if fault == (api.Fault{}) {
			want = whole.expr()
			fault = firstExprLimit(want, 0)
		}
		if fault != (api.Fault{}) {
			want = api.Expr{}
		}
		if got, f := ParseExpr(src); f != fault || !identical(got, want) {
			t.Fatalf("ParseExpr(%q) = %+v, %+v; want %+v, %+v", src, got, f, want, fault)
		}
	case "Y":
		want := api.Type{}
		if fault == (api.Fault{}) {
			want = whole.typ()
			if levels(want) > api.MaxDepth {
				want, fault = api.Type{}, api.Fault{Err: api.ErrDepth}
			}
		}
		if got, f := ParseType(src); f != fault || !types.Equal(got, want) {
			t.Fatalf("ParseType(%q) = %+v, %+v; want %+v, %+v", src, got, f, want, fault)
		}
	}
}

// allTexts calls f for all texts of up to size letters behind a text with which
// those of a form begin, if one can begin with them; and for all texts that are
// one of these and another letter.
func allTexts(form, text string, size int, f func(string)) {
	f(text)
	for i := range len(letters) {
		longer := text + letters[i:i+1]
		if _, left, _ := derivation(form, longer); left > 0 {
			f(longer)
		} else if size > 0 {
			allTexts(form, longer, size-1, f)
		}
	}
}

// P7.1 and P7.3: all short texts are parsed as the grammar says, and so are all
// short ends of longer ones.
func TestGrammar(t *testing.T) {
	r := random(1)
	for _, c := range []struct {
		form, text string
		size       int
	}{
		{"D", "", 6}, {"D", "dC", 5}, {"D", "dCxx=C", 4}, {"D", "dC=CxC", 3}, {"D", "dC=C(", 4}, {"D", "dC=C(C>", 3}, {"D", "dCx=C|C", 3}, {"D", "dC=C|Cx(x)|Cx;", 5},
		{"D", "lx", 3}, {"D", "lrx", 3}, {"D", "lx:", 4}, {"D", "lrx:C", 3}, {"D", "lx:Cx>", 3}, {"D", "lx:(C", 3}, {"D", "lx:x=", 3}, {"D", "lx=x", 3}, {"D", "lx=(x:C", 3}, {"D", `lx=\x.`, 3},
		{"D", "lx=lx", 3}, {"D", "lx=lrx=1i", 3}, {"D", "lx=cxoC.1", 3}, {"D", "lx=cxoC.1e", 3}, {"D", "lx=?;", 6}, {"D", "dC=C;dC=C;", 6}, {"D", "dC=C;lx=1;dC", 4}, {"D", "lx=1;dC=C;lr", 4},
		{"E", "", 4}, {"E", "lx=", 3}, {"E", "(x:", 3}, {"E", "cxoC.1|C", 3}, {"E", `\x.{x`, 3}, {"Y", "", 5}, {"Y", "C(", 4}, {"Y", "(C>x)", 4},
	} {
		allTexts(c.form, c.text, c.size, func(text string) { compare(t, c.form, text, &r) })
	}
}

// P7.1: what follows an unexpected token does not matter, as long as it consists
// of tokens.
func TestGrammarBehind(t *testing.T) {
	r := random(2)
	for _, before := range []string{"", "lx=x;", "dC=C;", "lx=", "lx:x", "dC=Cx", "lx=(x", "dC=C|", "lx=1"} {
		for _, behind := range []string{"", ";", ";lx=x;", ")", "=1;", "lx=1;dC=C;", "x|C;", "i"} {
			for i := range len(letters) {
				for k := range len(letters) {
					text := before + letters[i:i+1] + letters[k:k+1] + behind
					compare(t, "D", text, &r)
				}
			}
		}
	}
}

// chosen returns rules by which a text can be derived from a form, and the text.
// The rules are chosen by r; those for the names that are left when the text has
// its size are such that it soon ends.
func chosen(form string, size int, r *random) ([]string, string) {
	var rules []string
	text := ""
	for form != "" {
		options, isName := grammar[form[0]]
		if !isName {
			text, form = text+form[:1], form[1:]
			continue
		}
		rule := options[r.below(len(options))]
		if len(text)+len(form) > size {
			rule = map[byte]string{'E': "TZ", 'T': "?", 'F': ")", 'P': "x", 'R': "C", 'S': "lGxH=E;", 'B': "CQ", 'N': "CV.E", 'Y': "PW"}[form[0]]
		} else if form[0] == 'D' {
			rule = "SD"
		}
		rules = append(rules, rule)
		form = rule + form[1:]
	}
	return rules, text
}

// P7.1 and P7.3: longer texts of all kinds are parsed as they were derived.
func TestGrammarLong(t *testing.T) {
	r := random(3)
	for i := range 15000 {
		form := []string{"D", "D", "D", "E", "Y"}[i%5]
		rules, text := chosen(form, i%150, &r)
		src, l := place(tokensOf(text), &r)
		b := builder{rules: rules, tokens: l}
		compareParsed(t, form, src, b.piece(), api.Fault{})
	}
}

// P7.1 and P7.3: the error of longer texts in which one token is another one, is
// missing, or is new, or which end too early.
func TestGrammarChanged(t *testing.T) {
	r := random(4)
	for i := range 15000 {
		form := []string{"D", "D", "D", "E", "Y"}[i%5]
		_, text := chosen(form, 5+i%60, &r)
		k, letter := r.below(len(text)+1), letters[r.below(len(letters)):][:1]
		switch {
		case i%4 == 0:
			text = text[:k]
		case i%4 == 1 || k == len(text):
			text = text[:k] + letter + text[k:]
		case i%4 == 2:
			text = text[:k] + text[k+1:]
		default:
			text = text[:k] + letter + text[k+1:]
		}
		compare(t, form, text, &r)
	}
}

// enclosed returns the tokens of a part, in which expressions and types stand in
// superfluous parentheses, where r says so.
func (p piece) enclosed(name byte, r *random) []api.Token {
	var l []api.Token
	tokens, parts := p.tokens, p.parts
	for i := range len(p.rule) {
		if _, isName := grammar[p.rule[i]]; isName {
			l = append(l, parts[0].enclosed(p.rule[i], r)...)
			parts = parts[1:]
			continue
		}
		l = append(l, tokens[0])
		tokens = tokens[1:]
	}
	for strings.IndexByte("ETYPR", name) >= 0 && r.below(4) == 0 {
		l = slices.Concat([]api.Token{{Kind: api.TokenMark, Text: "("}}, l, []api.Token{{Kind: api.TokenMark, Text: ")"}})
	}
	return l
}

// P7.4: other white space and superfluous parentheses change nothing but
// positions, also where a limit is exceeded.
func TestWhiteSpaceAndParentheses(t *testing.T) {
	r := random(5)
	accepted := 0
	for i := range 6000 {
		rules, text := chosen("D", i%120, &r)
		b := builder{rules: rules, tokens: tokensOf(text)}
		whole := b.piece()
		first, _ := place(tokensOf(text), &r)
		second, _ := place(whole.enclosed('D', &r), &r)
		if len(first) > api.MaxSource || len(second) > api.MaxSource {
			continue
		}
		p, f := Parse(first)
		q, g := Parse(second)
		if f.Err != g.Err || !tree.EqualProgram(p, q) || f.Err == api.OK && !tree.EqualProgram(p, whole.program()) {
			t.Fatalf("Parse(%q) = %+v, %+v; Parse(%q) = %+v, %+v", first, p, f, second, q, g)
		}
		if f.Err == api.OK {
			accepted++
			checkValid(t, first, p)
		}
	}
	if accepted < 3000 {
		t.Errorf("only %d programs were accepted", accepted)
	}
}

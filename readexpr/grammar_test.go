package readexpr

import (
	"strconv"
	"testing"

	"typedholes/api"
	"typedholes/types"
)

// The texts below have one letter for each token: x is a lower and C an upper
// name, 1 an integer, > the mark ->, l let, r rec, i in, c case, o of and e end;
// d is data. Other letters are marks.
const letters = "xC1?(){}\\.:|=>;lriocde"

// grammar is the chapter's grammar, with one letter for each of its names, too:
// E is an expression, M are arms, N is an arm, V are variables, A is an applied
// expression and T an atom; Y is a type, P an applied type, Q are its arguments
// and R is one of them. Repetitions are written out, such that no rule begins
// with its own name.
var grammar = map[byte][]string{
	'E': {`\x.E`, "lx=EiE", "lrx=EiE", "cEoMe", "A"},
	'M': {"N", "N|M"},
	'N': {"CV.E"},
	'V': {"", "xV"},
	'A': {"T", "TA"},
	'T': {"x", "C", "1", "?", "(E)", "(E:Y)", "{E}"},
	'Y': {"P", "P>Y"},
	'P': {"x", "(Y)", "CQ"},
	'Q': {"", "RQ"},
	'R': {"x", "C", "(Y)"},
}

// derivation returns the rules by which a text can be derived from a form, each
// applied to the first name that is left, and whether there are any.
func derivation(form, text string) ([]string, bool) {
	if form == "" {
		return nil, text == ""
	}
	rules, isName := grammar[form[0]]
	if !isName {
		if text == "" || text[0] != form[0] {
			return nil, false
		}
		return derivation(form[1:], text[1:])
	}
	for _, rule := range rules {
		if rest, ok := derivation(rule+form[1:], text); ok {
			return append([]string{rule}, rest...), true
		}
	}
	return nil, false
}

// begins reports whether a text can be continued to one that can be derived from
// a form. From each name something can be derived, so that no more than the
// letters of the text matter.
func begins(form, text string) bool {
	if text == "" || form == "" {
		return text == ""
	}
	rules, isName := grammar[form[0]]
	if !isName {
		return text[0] == form[0] && begins(form[1:], text[1:])
	}
	for _, rule := range rules {
		if begins(rule+form[1:], text) {
			return true
		}
	}
	return false
}

// builder makes an expression from a derivation and its tokens, in order.
type builder struct {
	rules  []string
	tokens []api.Token
	at     int
}

// part is what was derived from a name: the rule, the tokens of the rule's own
// letters, and the parts of its names.
type part struct {
	rule   string
	tokens []api.Token
	parts  []part
}

func (b *builder) part() part {
	p := part{rule: b.rules[0]}
	b.rules = b.rules[1:]
	for i := range len(p.rule) {
		if _, isName := grammar[p.rule[i]]; isName {
			p.parts = append(p.parts, b.part())
			continue
		}
		p.tokens = append(p.tokens, b.tokens[b.at])
		b.at++
	}
	return p
}

func (p part) expr() api.Expr {
	kids := func() []api.Expr {
		var out []api.Expr
		for _, k := range p.parts {
			out = append(out, k.expr())
		}
		return out
	}
	e := api.Expr{}
	if len(p.tokens) > 0 {
		e.Pos = p.tokens[0].Pos
	}
	switch p.rule {
	case `\x.E`:
		e.Kind, e.Name, e.Kids = api.ExprLam, p.tokens[1].Text, kids()
	case "lx=EiE":
		e.Kind, e.Name, e.Kids = api.ExprLet, p.tokens[1].Text, kids()
	case "lrx=EiE":
		e.Kind, e.Name, e.Kids = api.ExprRec, p.tokens[2].Text, kids()
	case "cEoMe":
		e.Kind, e.Kids, e.Arms = api.ExprCase, []api.Expr{p.parts[0].expr()}, p.parts[1].arms()
	case "A", "T", "(E)":
		e = p.parts[0].expr()
	case "TA":
		atoms := p.atoms()
		e = atoms[0]
		for _, x := range atoms[1:] {
			e = app(atoms[0].Pos, e, x)
		}
	case "x":
		e.Kind, e.Name = api.ExprVar, p.tokens[0].Text
	case "C":
		e.Kind, e.Name = api.ExprCon, p.tokens[0].Text
	case "1":
		e.Kind, e.Num = api.ExprInt, e.Pos
	case "?":
		e.Kind = api.ExprHole
	case "(E:Y)":
		e.Kind, e.Kids, e.Type = api.ExprAnn, []api.Expr{p.parts[0].expr()}, p.parts[1].typ()
	case "{E}":
		e.Kind, e.Kids = api.ExprHeld, kids()
	}
	return e
}

func (p part) atoms() []api.Expr {
	if p.rule == "T" {
		return []api.Expr{p.parts[0].expr()}
	}
	return append([]api.Expr{p.parts[0].expr()}, p.parts[1].atoms()...)
}

func (p part) arms() []api.Arm {
	n := p.parts[0]
	first := api.Arm{Pos: n.tokens[0].Pos, Con: n.tokens[0].Text, Vars: n.parts[0].vars(), Body: n.parts[1].expr()}
	if p.rule == "N" {
		return []api.Arm{first}
	}
	return append([]api.Arm{first}, p.parts[1].arms()...)
}

func (p part) vars() []string {
	if p.rule == "" {
		return nil
	}
	return append([]string{p.tokens[0].Text}, p.parts[0].vars()...)
}

func (p part) typ() api.Type {
	switch p.rule {
	case "P>Y":
		return types.Arrow(p.parts[0].typ(), p.parts[1].typ())
	case "x":
		return api.Type{Kind: api.TypeName, Name: p.tokens[0].Text}
	case "C":
		return types.Con(p.tokens[0].Text)
	case "CQ":
		return types.Con(p.tokens[0].Text, p.parts[0].args()...)
	}
	return p.parts[0].typ()
}

func (p part) args() []api.Type {
	if p.rule == "" {
		return nil
	}
	return append([]api.Type{p.parts[0].typ()}, p.parts[1].args()...)
}

// tokens returns the tokens of a text. Each name and number occurs once, and the
// offsets leave gaps.
func tokens(text string) []api.Token {
	words := map[byte]string{'l': "let", 'r': "rec", 'i': "in", 'c': "case", 'o': "of", 'e': "end", 'd': "data"}
	var l []api.Token
	for i := range len(text) {
		pos := 10*i + 3
		t := api.Token{Kind: api.TokenMark, Text: text[i : i+1], Pos: pos}
		switch letter := text[i]; letter {
		case 'x':
			t.Kind, t.Text = api.TokenLower, "x"+strconv.Itoa(i)
		case 'C':
			t.Kind, t.Text = api.TokenUpper, "C"+strconv.Itoa(i)
		case '1':
			t.Kind, t.Text = api.TokenInt, strconv.Itoa(pos)
		case '>':
			t.Text = "->"
		default:
			if words[letter] != "" {
				t.Kind, t.Text = api.TokenWord, words[letter]
			}
		}
		l = append(l, t)
	}
	return l
}

// expected returns what a function that reads what a name stands for must return
// for the tokens of a text, which are those of a list from an index on.
func expected(name, text string, l []api.Token, from int) result {
	size := len(text)
	for !begins(name, text[:size]) {
		size--
	}
	if rules, ok := derivation(name, text[:size]); ok {
		b := builder{rules: rules, tokens: l, at: from}
		return result{e: b.part().expr(), next: from + size}
	}
	if size < len(text) {
		return refused(l[from+size].Pos)
	}
	if len(l) == 0 {
		return refused(0)
	}
	last := l[len(l)-1]
	return refused(last.Pos + len(last.Text))
}

// compare reads a text behind other tokens, and compares the results with those
// of the grammar.
func compare(t *testing.T, before, text string) {
	t.Helper()
	l, from := tokens(before+text), len(before)
	if got, want := apply(Expr, l, from), expected("E", text, l, from); !got.is(want) {
		t.Fatalf("Expr(%s) from %d = %+v; want %+v", before+text, from, got, want)
	}
	if got, want := apply(Atom, l, from), expected("T", text, l, from); !got.is(want) {
		t.Fatalf("Atom(%s) from %d = %+v; want %+v", before+text, from, got, want)
	}
}

// allTexts calls f for all texts of up to size letters behind a text with which an
// expression begins, if one can begin with them; and for all texts that are one
// of these and another letter.
func allTexts(text string, size int, f func(string)) {
	f(text)
	for i := range len(letters) {
		longer := text + letters[i:i+1]
		if !begins("E", longer) {
			f(longer)
		} else if size > 0 {
			allTexts(longer, size-1, f)
		}
	}
}

// P6.1: all short lists of tokens are read as the grammar says, and so are all
// short ends of longer ones.
func TestGrammar(t *testing.T) {
	for _, c := range []struct {
		text string
		size int
	}{
		{"", 4}, {`\x.`, 3}, {"lx=", 3}, {"lrx=", 2}, {"lx=xi", 3}, {"lrx=1i", 2}, {"cx", 3}, {"cxoC", 3}, {"cxoCxxx", 2}, {"cxoC.", 3}, {"cxoC.x|C", 3}, {"cxoC.x|Cx.1e", 2},
		{"cxoC.cx", 2}, {"cxoC.cxoC.?e", 2}, {"ccxoC.?e", 2}, {"(x", 3}, {"(x:", 3}, {"(x:C", 3}, {"(x:C(x>C)>", 2}, {"((x)x", 2}, {"{x", 3}, {"xx", 3}, {"x(x)", 3},
		{`\x.lx=cxoC.1|Cx.\x.(x`, 2}, {"cxoCx.lx=1ix|C.{x}", 2}, {"lx=(x:C)i{xx", 2}, {"(cxoC.1e:", 2}, {"(lx=xix:x", 2},
	} {
		allTexts(c.text, c.size, func(text string) { compare(t, "", text) })
	}
}

// P6.1: what follows an unexpected token does not matter, nor does what comes
// before the index.
func TestGrammarInside(t *testing.T) {
	for i, before := range []string{"", "x", "C", "(", ")", "{", "\\x.", "lx=", "cxoC.", "d=:", "e;|"} {
		for k, behind := range []string{"", "x", ")", "}x", ".x", "=1", "e|", ";", "ix", ":C)"} {
			if i == 0 || k == 0 || (i+k)%3 == 0 {
				allTexts("", 2, func(text string) { compare(t, before, text+behind) })
			}
		}
	}
}

// chosen returns rules by which a text can be derived from a form, and the text.
// The rules are chosen by a sequence of numbers; those for the names that are
// left when the text has its size are such that it soon ends.
func chosen(form string, size int, seed *uint32) ([]string, string) {
	var rules []string
	text := ""
	for form != "" {
		options, isName := grammar[form[0]]
		if !isName {
			text, form = text+form[:1], form[1:]
			continue
		}
		*seed = *seed*1664525 + 1013904223
		rule := options[int(*seed>>16)%len(options)]
		if len(text)+len(form) > size {
			rule = map[byte]string{'E': "A", 'M': "N", 'N': "CV.E", 'V': "", 'A': "T", 'T': "?", 'Y': "P", 'P': "x", 'Q': "", 'R': "C"}[form[0]]
		}
		rules = append(rules, rule)
		form = rule + form[1:]
	}
	return rules, text
}

// P6.1: longer texts of all kinds are read as they were derived, up to what
// cannot continue them. Where they are cut off they are complete, or their end is
// unexpected.
func TestGrammarLong(t *testing.T) {
	seed := uint32(1)
	for i := range 20000 {
		rules, text := chosen("E", 10+i%60, &seed)
		behind := []string{"", ")", "}e", ";x", "=", ":C", "i", ".", "|", "o", "d", "r", ">"}[i%13]
		l := tokens(text + behind)
		b := builder{rules: rules, tokens: l}
		want := result{e: b.part().expr(), next: len(text)}
		if got := apply(Expr, l, 0); !got.is(want) {
			t.Fatalf("Expr(%s) = %+v; want %+v", text+behind, got, want)
		}
		cut := l[:7*i%len(text)]
		end := 0
		if len(cut) > 0 {
			end = cut[len(cut)-1].Pos + len(cut[len(cut)-1].Text)
		}
		if got := apply(Expr, cut, 0); !got.is(refused(end)) && (got.fault != (api.Fault{}) || got.next != len(cut)) {
			t.Fatalf("Expr(%s) = %+v", text[:len(cut)], got)
		}
	}
}

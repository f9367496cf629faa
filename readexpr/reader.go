package readexpr

import (
	"errors"
	"strconv"

	"typedholes/api"
	"typedholes/readtype"
)

// errUnexpected is the only error of a reader.
var errUnexpected = errors.New("unexpected token")

// reader reads tokens by the rules of the grammar, with a method for each. One
// token is always enough to choose between the continuations, so a reader never
// goes back, and the token at which it fails is the first unexpected one. It
// remembers its error, so that the methods need not stop at once: from then on
// they find no token to read, and what they return is not used.
type reader struct {
	tokens []api.Token
	next   int   // the index of the first token that is not read yet
	err    error // nil while all tokens were expected
	at     int   // the offset of the first token that was not
}

func (r *reader) expr() api.Expr {
	t := r.token()
	switch {
	case isMark(t, `\`):
		return r.function()
	case isWord(t, "let"):
		return r.local()
	case isWord(t, "case"):
		return r.analysis()
	}
	return r.applied()
}

func (r *reader) function() api.Expr {
	e := api.Expr{Kind: api.ExprLam, Pos: r.skip()}
	e.Name = r.name(api.TokenLower)
	r.mark(".")
	e.Kids = []api.Expr{r.expr()}
	return e
}

func (r *reader) local() api.Expr {
	e := api.Expr{Kind: api.ExprLet, Pos: r.skip()}
	if isWord(r.token(), "rec") {
		r.skip()
		e.Kind = api.ExprRec
	}
	e.Name = r.name(api.TokenLower)
	r.mark("=")
	value := r.expr()
	r.word("in")
	e.Kids = []api.Expr{value, r.expr()}
	return e
}

func (r *reader) analysis() api.Expr {
	e := api.Expr{Kind: api.ExprCase, Pos: r.skip()}
	e.Kids = []api.Expr{r.expr()}
	r.word("of")
	e.Arms = []api.Arm{r.arm()}
	for isMark(r.token(), "|") {
		r.skip()
		e.Arms = append(e.Arms, r.arm())
	}
	r.word("end")
	return e
}

func (r *reader) arm() api.Arm {
	a := api.Arm{Pos: r.token().Pos, Con: r.name(api.TokenUpper)}
	for r.token().Kind == api.TokenLower {
		a.Vars = append(a.Vars, r.name(api.TokenLower))
	}
	r.mark(".")
	a.Body = r.expr()
	return a
}

func (r *reader) applied() api.Expr {
	e := r.atom()
	for Starts(r.token()) {
		e = api.Expr{Kind: api.ExprApp, Pos: e.Pos, Kids: []api.Expr{e, r.atom()}}
	}
	return e
}

func (r *reader) atom() api.Expr {
	t := r.token()
	if !Starts(t) {
		r.unexpected()
		return api.Expr{}
	}
	r.skip()
	switch t.Kind {
	case api.TokenLower:
		return api.Expr{Kind: api.ExprVar, Pos: t.Pos, Name: t.Text}
	case api.TokenUpper:
		return api.Expr{Kind: api.ExprCon, Pos: t.Pos, Name: t.Text}
	case api.TokenInt:
		return api.Expr{Kind: api.ExprInt, Pos: t.Pos, Num: number(t.Text)}
	}
	switch t.Text {
	case "(":
		return r.enclosed(t.Pos)
	case "{":
		return r.held(t.Pos)
	}
	return api.Expr{Kind: api.ExprHole, Pos: t.Pos}
}

// enclosed reads the rest of an atom behind its left parenthesis at pos.
func (r *reader) enclosed(pos int) api.Expr {
	e := r.expr()
	if isMark(r.token(), ":") {
		r.skip()
		e = api.Expr{Kind: api.ExprAnn, Pos: pos, Kids: []api.Expr{e}, Type: r.typ()}
	}
	r.mark(")")
	return e
}

// held reads the rest of an atom behind its left brace at pos.
func (r *reader) held(pos int) api.Expr {
	e := r.expr()
	r.mark("}")
	return api.Expr{Kind: api.ExprHeld, Pos: pos, Kids: []api.Expr{e}}
}

func (r *reader) typ() api.Type {
	t, next, fault := readtype.Type(r.tokens, r.next)
	if fault.Err != api.OK {
		r.fail(fault.Pos)
		return api.Type{}
	}
	r.next = next
	return t
}

// name reads a name of a kind.
func (r *reader) name(kind int) string {
	t := r.token()
	r.expect(t.Kind == kind)
	return t.Text
}

func (r *reader) mark(text string) { r.expect(isMark(r.token(), text)) }

func (r *reader) word(text string) { r.expect(isWord(r.token(), text)) }

// expect reads the next token if it is as the grammar wants it.
func (r *reader) expect(fits bool) {
	if !fits {
		r.unexpected()
		return
	}
	r.next++
}

// skip reads a token that has been looked at, and returns its Pos.
func (r *reader) skip() int {
	r.next++
	return r.tokens[r.next-1].Pos
}

// token returns the next token. At the end, and after an error, this is the zero
// token, which no rule of the grammar can read.
func (r *reader) token() api.Token {
	if errors.Is(r.err, errUnexpected) || r.next == len(r.tokens) {
		return api.Token{}
	}
	return r.tokens[r.next]
}

// unexpected makes the next token the error, or the end.
func (r *reader) unexpected() {
	if r.next < len(r.tokens) {
		r.fail(r.tokens[r.next].Pos)
		return
	}
	r.fail(end(r.tokens))
}

// fail remembers the first error, and no later one.
func (r *reader) fail(at int) {
	if r.err == nil {
		r.err, r.at = errUnexpected, at
	}
}

// end returns the offset of the end of a list of tokens.
func end(l []api.Token) int {
	if len(l) == 0 {
		return 0
	}
	last := l[len(l)-1]
	return last.Pos + len(last.Text)
}

// number returns the number that an integer stands for; 0 if the text is none,
// which only a token can have that is not valid.
func number(text string) int {
	n, err := strconv.Atoi(text)
	if err != nil {
		return 0
	}
	return n
}

func isMark(t api.Token, text string) bool {
	return t.Kind == api.TokenMark && t.Text == text
}

func isWord(t api.Token, text string) bool {
	return t.Kind == api.TokenWord && t.Text == text
}

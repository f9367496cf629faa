package readprogram

import (
	"typedholes/api"
	"typedholes/readexpr"
	"typedholes/readtype"
)

// reader reads tokens by the rules of the grammar, and leaves expressions and
// types to the lower layers. Like theirs, it never goes back, and the token at
// which it fails is the first unexpected one. It remembers its error, so that the
// methods need not stop at once: from then on they find no token to read, and
// what they return is not used.
type reader struct {
	tokens []api.Token
	next   int       // the index of the first token that is not read yet
	fault  api.Fault // no error while all tokens were expected
}

// program reads the declarations from the index i on, all up to the end. Its form
// is that of the functions by which the lower layers read.
func program(l []api.Token, i int) (api.Program, int, api.Fault) {
	r := reader{tokens: l, next: i}
	var p api.Program
	declaration := func() {
		if isWord(r.token(), "data") {
			p.Datas = append(p.Datas, r.data())
			return
		}
		p.Binds = append(p.Binds, r.bind())
	}
	for r.fault.Err == api.OK && r.next < len(l) {
		declaration()
	}
	if r.fault.Err != api.OK {
		return api.Program{}, 0, r.fault
	}
	return p, r.next, api.Fault{}
}

func (r *reader) data() api.Data {
	d := api.Data{Pos: r.token().Pos}
	r.word("data")
	d.Name = r.name(api.TokenUpper)
	for r.token().Kind == api.TokenLower {
		d.Params = append(d.Params, r.name(api.TokenLower))
	}
	r.mark("=")
	d.Constructors = []api.Constructor{r.constructor()}
	for isMark(r.token(), "|") {
		r.mark("|")
		d.Constructors = append(d.Constructors, r.constructor())
	}
	r.mark(";")
	return d
}

func (r *reader) constructor() api.Constructor {
	c := api.Constructor{Pos: r.token().Pos, Name: r.name(api.TokenUpper)}
	for readtype.Starts(r.token()) {
		c.Fields = append(c.Fields, part(r, readtype.Atom))
	}
	return c
}

func (r *reader) bind() api.Bind {
	b := api.Bind{Pos: r.token().Pos}
	r.word("let")
	if isWord(r.token(), "rec") {
		r.word("rec")
		b.Rec = true
	}
	b.Name = r.name(api.TokenLower)
	if isMark(r.token(), ":") {
		r.mark(":")
		b.HasSig, b.Sig = true, part(r, readtype.Type)
	}
	r.mark("=")
	b.Body = part(r, readexpr.Expr)
	r.mark(";")
	return b
}

// part returns what a function of a lower layer reads from the next token on.
func part[T any](r *reader, function func([]api.Token, int) (T, int, api.Fault)) T {
	result, next, fault := function(r.tokens, r.next)
	if fault.Err != api.OK {
		r.fail(fault.Pos)
		return result
	}
	r.next = next
	return result
}

// name reads a name of a kind.
func (r *reader) name(kind int) string {
	t := r.token()
	r.expect(t.Kind == kind)
	return t.Text
}

func (r *reader) mark(text string) { r.expect(isMark(r.token(), text)) }

func (r *reader) word(text string) { r.expect(isWord(r.token(), text)) }

// expect reads the next token if it is as the grammar wants it.
func (r *reader) expect(fits bool) {
	switch {
	case fits:
		r.next++
	case r.next < len(r.tokens):
		r.fail(r.tokens[r.next].Pos)
	default:
		r.fail(end(r.tokens))
	}
}

// fail remembers the first error, and no later one.
func (r *reader) fail(at int) {
	if r.fault.Err == api.OK {
		r.fault = api.Fault{Err: api.ErrSyntax, Pos: at}
	}
}

// token returns the next token. At the end, and after an error, this is the zero
// token, which no rule of the grammar can read.
func (r *reader) token() api.Token {
	if r.fault.Err != api.OK || r.next == len(r.tokens) {
		return api.Token{}
	}
	return r.tokens[r.next]
}

// end returns the offset of the end of a list of tokens.
func end(l []api.Token) int {
	if len(l) == 0 {
		return 0
	}
	last := l[len(l)-1]
	return last.Pos + len(last.Text)
}

func isMark(t api.Token, text string) bool {
	return t.Kind == api.TokenMark && t.Text == text
}

func isWord(t api.Token, text string) bool {
	return t.Kind == api.TokenWord && t.Text == text
}

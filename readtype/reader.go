package readtype

import (
	"strconv"

	"typedholes/api"
	"typedholes/types"
)

// reader reads tokens by the rules of the grammar, with a method for each. One
// token is always enough to choose between the continuations, so a reader never
// goes back, and the token at which it fails is the first unexpected one.
type reader struct {
	tokens []api.Token
	next   int // the index of the first token that is not read yet
}

// anyType reads what the grammar calls a type: one of any form.
func (r *reader) anyType() (api.Type, error) {
	from, err := r.applied()
	if err != nil || !isMark(r.token(), "->") {
		return from, err
	}
	r.next++
	to, err := r.anyType()
	if err != nil {
		return api.Type{}, err
	}
	return types.Arrow(from, to), nil
}

func (r *reader) applied() (api.Type, error) {
	head := r.token()
	if head.Kind != api.TokenUpper {
		return r.atom()
	}
	r.next++
	var args []api.Type
	for Starts(r.token()) {
		arg, err := r.atom()
		if err != nil {
			return api.Type{}, err
		}
		args = append(args, arg)
	}
	return types.Con(head.Text, args...), nil
}

func (r *reader) atom() (api.Type, error) {
	t := r.token()
	if !Starts(t) {
		return api.Type{}, r.unexpected()
	}
	r.next++
	switch t.Kind {
	case api.TokenLower:
		return api.Type{Kind: api.TypeName, Name: t.Text}, nil
	case api.TokenUpper:
		return types.Con(t.Text), nil
	}
	return r.enclosed()
}

// enclosed reads the rest of an atom behind its left parenthesis.
func (r *reader) enclosed() (api.Type, error) {
	t, err := r.anyType()
	if err != nil {
		return api.Type{}, err
	}
	if !isMark(r.token(), ")") {
		return api.Type{}, r.unexpected()
	}
	r.next++
	return t, nil
}

// token returns the next token. At the end this is the zero token, which no rule
// of the grammar can read.
func (r *reader) token() api.Token {
	if r.next == len(r.tokens) {
		return api.Token{}
	}
	return r.tokens[r.next]
}

// unexpected returns the error that the next token is, or the end.
func (r *reader) unexpected() error {
	if r.next < len(r.tokens) {
		return unexpectedToken{offset(r.tokens[r.next].Pos)}
	}
	return unexpectedToken{end(r.tokens)}
}

// end returns the offset of the end of a list of tokens.
func end(l []api.Token) offset {
	if len(l) == 0 {
		return 0
	}
	last := l[len(l)-1]
	return offset(last.Pos + len(last.Text))
}

func isMark(t api.Token, text string) bool {
	return t.Kind == api.TokenMark && t.Text == text
}

// unexpectedToken is the only error of a reader.
type unexpectedToken struct{ at offset }

func (u unexpectedToken) Error() string { return "unexpected token at " + u.at.Error() }

func (u unexpectedToken) Unwrap() error { return u.at }

// offset is a place in a source text. It is an error for the sake of errors.As,
// which looks for nothing else.
type offset int

func (o offset) Error() string { return strconv.Itoa(int(o)) }

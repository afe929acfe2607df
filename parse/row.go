package parse

import (
	"slices"

	"clerestory/api"
)

// row is the tokens that were not taken yet; the end, which is the last one, never is.
type row struct {
	left []api.Token
}

// next tells the token that comes next.
func (r *row) next() api.Token {
	return r.left[0]
}

// sees tells whether the next token is one of these words and signs, which no other token is spelled like.
func (r *row) sees(texts ...string) bool {
	return slices.Contains(texts, r.next().Text)
}

// take tells the next token's text, and goes behind it.
func (r *row) take() string {
	text := r.next().Text
	r.left = r.left[1:]
	return text
}

// must panics, unless the next token is one of these words and signs.
func (r *row) must(texts ...string) {
	if !r.sees(texts...) {
		panic(r.fault(api.ErrSyntax))
	}
}

// want takes the next token, which must be this word or sign.
func (r *row) want(text string) {
	r.must(text)
	r.take()
}

// name takes the next token, which must be a name, and tells it.
func (r *row) name() string {
	if r.next().Kind != api.TokName {
		panic(r.fault(api.ErrSyntax))
	}
	return r.take()
}

// fault tells the error, at the next token.
func (r *row) fault(err api.Errno) api.Fault {
	return api.Fault{Err: err, At: r.next().At}
}

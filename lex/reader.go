package lex

// reader goes through the bytes of a text.
type reader struct {
	text string
	at   int
}

// more tells whether bytes are left.
func (r *reader) more() bool {
	return r.at < len(r.text)
}

// left tells the bytes that are not taken yet.
func (r *reader) left() string {
	return r.text[r.at:]
}

// take tells the next count bytes, and goes behind them; so many must be left.
func (r *reader) take(count int) string {
	from := r.at
	r.at += count
	return r.text[from:r.at]
}

// takeAll tells as many of the next bytes as are of the sort, and goes behind them.
func (r *reader) takeAll(sort func(b byte) bool) string {
	return r.take(leading(r.left(), sort))
}

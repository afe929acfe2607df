// Package lines is layer 1: see shared/doc/01-lines.md.
package lines

import (
	"strings"

	"clerestory/api"
)

// Split tells the lines of s, in order.
func Split(s string) []string {
	var l []string
	// A copy of s is cut up, so that what is handed out shares no memory with s.
	for line := range each(strings.Clone(s)) {
		l = append(l, line)
	}
	return l
}

// Join tells the lines of l, one behind the other; any texts may be lines here.
func Join(l []string) string {
	var w writer
	w.putLines(l)
	return w.String()
}

// Place tells the line and the column of the place at; one outside of s is taken for the nearest one in it.
func Place(s string, at int) (line, column int) {
	at = min(max(at, 0), len(s))
	for ahead := range each(s[:at]) {
		if ended(ahead) {
			line++
		} else {
			column = len(ahead)
		}
	}
	return line, column
}

// At tells the place of that line and column.
func At(s string, line, column int) (int, api.Errno) {
	begin, ok := behind(s, line)
	// Behind a last line without a byte 10 no other line begins.
	if !ok || line > 0 && !ended(s[:begin]) {
		return 0, api.ErrNone
	}
	// The column is held against what is left before it is added: the sum could wrap round.
	if column < 0 || column > width(s[begin:]) {
		return 0, api.ErrNone
	}
	return begin + column, api.OK
}

// Span tells where the lines from the one counted from up to, not with, the one counted to begin and end.
func Span(s string, from, to int) (api.Span, api.Errno) {
	if from > to {
		return api.Span{}, api.ErrArg
	}
	begin, hasFrom := behind(s, from)
	end, hasTo := behind(s, to)
	if !hasFrom || !hasTo {
		return api.Span{}, api.ErrArg
	}
	return api.Span{From: begin, To: end}, api.OK
}

package lex

import (
	"slices"
	"strings"

	"clerestory/api"
)

// signs are ordered so that the first one that stands at a place is the longest.
var signs = []string{
	"==", "!=", "<=", ">=", "&&", "||",
	"(", ")", "{", "}", "[", "]", ",", ";", "=", "<", ">", "+", "-", "*", "/", "%", "!",
}

// lexer makes tokens of the bytes of a text; the reader's calls are its own.
type lexer struct {
	reader
	tokens []api.Token
	fault  api.Fault
}

// read goes on, by the first of the ways that is open where it stands, up to the end of the text or the first fault.
func (l *lexer) read(ways ...func() bool) {
	open := func(way func() bool) bool { return way() }
	for l.more() && l.fault.Err == api.OK {
		if !slices.ContainsFunc(ways, open) {
			l.fault = api.Fault{Err: api.ErrByte, At: l.at}
		}
	}
}

// put puts a token of bytes that were just taken behind those that are there.
func (l *lexer) put(kind api.TokenKind, text string) {
	l.tokens = append(l.tokens, api.Token{Kind: kind, Text: text, At: l.at - len(text)})
}

// blanks passes over blanks, and tells whether one stood there.
func (l *lexer) blanks() bool {
	return l.takeAll(blank) != ""
}

// comment passes over a comment, and tells whether one stood there.
func (l *lexer) comment() bool {
	if !strings.HasPrefix(l.left(), "//") {
		return false
	}
	l.takeAll(withinLine)
	return true
}

// run takes letters and digits as a token, or as a fault, and tells whether one stood there.
func (l *lexer) run() bool {
	text := l.takeAll(letterOrDigit)
	switch {
	case text == "":
		return false
	case slices.Contains(Words(), text):
		l.put(api.TokWord, text)
	case Name(text):
		l.put(api.TokName, text)
	case integer(text):
		l.put(api.TokInt, text)
	default:
		l.fault = api.Fault{Err: api.ErrToken, At: l.at - len(text)}
	}
	return true
}

// sign takes the longest sign, and tells whether one stood there.
func (l *lexer) sign() bool {
	for _, s := range signs {
		if strings.HasPrefix(l.left(), s) {
			l.put(api.TokSign, l.take(len(s)))
			return true
		}
	}
	return false
}

package lex

import "clerestory/api"

// maxInteger is 2^63 - 1: as a text, since an integer may have more digits than any number kind holds.
const maxInteger = "9223372036854775807"

func letter(b byte) bool {
	return 'a' <= b && b <= 'z' || 'A' <= b && b <= 'Z' || b == '_'
}

func digit(b byte) bool {
	return '0' <= b && b <= '9'
}

func letterOrDigit(b byte) bool {
	return letter(b) || digit(b)
}

func blank(b byte) bool {
	return b == ' ' || b == '\t' || b == '\n' || b == '\r'
}

// withinLine tells whether b does not end a comment: of all bytes the byte 10 alone does.
func withinLine(b byte) bool {
	return b != '\n'
}

// leading tells how many bytes of the sort s begins with.
func leading(s string, sort func(b byte) bool) int {
	for i := range len(s) {
		if !sort(s[i]) {
			return i
		}
	}
	return len(s)
}

// spelledAsName tells whether s is a name, or one of the words.
func spelledAsName(s string) bool {
	return s != "" && len(s) <= api.MaxName && letter(s[0]) && leading(s, letterOrDigit) == len(s)
}

// integer tells whether s is an integer.
func integer(s string) bool {
	if s == "" || leading(s, digit) < len(s) || len(s) > 1 && s[0] == '0' {
		return false
	}
	// Without a 0 ahead, of two texts of digits the longer one says more; of as many digits each, the one that is sorted behind.
	return len(s) < len(maxInteger) || len(s) == len(maxInteger) && s <= maxInteger
}

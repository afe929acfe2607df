package lines

import (
	"iter"
	"strings"
)

// newline is the byte 10 that ends a line.
const newline = '\n'

// each yields the lines of s, in order.
func each(s string) iter.Seq[string] {
	return func(yield func(string) bool) {
		for rest := s; rest != ""; {
			size := lineSize(rest)
			if !yield(rest[:size]) {
				return
			}
			rest = rest[size:]
		}
	}
}

// lineSize tells how many bytes the first line of s has, its byte 10 among them.
func lineSize(s string) int {
	if at := strings.IndexByte(s, newline); at >= 0 {
		return at + 1
	}
	return len(s)
}

// width tells the greatest column in the first line of s: that of the place ahead of its byte 10, since the one behind it is of the next line.
func width(s string) int {
	size := lineSize(s)
	if ended(s[:size]) {
		return size - 1
	}
	return size
}

// ended tells whether the last byte of s is a byte 10.
func ended(s string) bool {
	return s != "" && s[len(s)-1] == newline
}

// behind tells the place behind the first count lines of s, and whether s has so many.
func behind(s string, count int) (int, bool) {
	at, left := 0, count
	for line := range each(s) {
		if left <= 0 {
			break
		}
		at += len(line)
		left--
	}
	return at, left == 0
}

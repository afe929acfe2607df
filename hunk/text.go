package hunk

import (
	"slices"
	"strings"

	"clerestory/api"
)

// newline is the byte 10 that ends a line.
const newline = '\n'

// areLines tells whether l are lines of which only the last one may be open.
func areLines(l []string) bool {
	for i, line := range l {
		if line == "" {
			return false
		}
		end := strings.IndexByte(line, newline)
		open := end < 0 && i == len(l)-1
		if end != len(line)-1 && !open {
			return false
		}
	}
	return true
}

// row is the lines that were put so far, in memory of their own.
type row struct {
	lines []string
}

// put puts the lines behind those that are there.
func (r *row) put(l ...string) {
	for _, line := range l {
		r.lines = append(r.lines, strings.Clone(line))
	}
}

// copied tells l in new memory, since what is told shares none with what it comes of.
func copied(l []string) []string {
	var r row
	r.put(l...)
	return r.lines
}

// text is one that is made out of another one's lines, from its first to its last.
type text struct {
	row
	upTo func(at int) []string
}

// asking tells a closure that is asked for the lines of l: those from where it was asked last up to, not with, the line at, which never falls. It panics, if l has fewer lines.
func asking(l []string) func(at int) []string {
	from := 0
	return func(at int) []string {
		if at > len(l) {
			panic(api.ErrNone)
		}
		part := l[from:at]
		from = at
		return part
	}
}

// exchange puts what stands ahead of h, and its New; it panics, if h does not fit.
func (t *text) exchange(h api.Hunk) {
	t.put(t.upTo(h.At)...)
	if !slices.Equal(t.upTo(h.At+len(h.Old)), h.Old) {
		panic(api.ErrOld)
	}
	t.put(h.New...)
}

// exchanged tells the lines l with the sorted hunks exchanged, or the error that a panic brought.
func exchanged(l []string, hunks ...api.Hunk) (told []string, err api.Errno) {
	defer func() {
		if fault, thrown := recover().(api.Errno); thrown {
			told, err = nil, fault
		}
	}()
	t := text{upTo: asking(l)}
	for _, h := range hunks {
		t.exchange(h)
	}
	t.put(t.upTo(len(l))...)
	// An open line of a New, or l's last one, may have come amid others.
	if !areLines(t.lines) {
		panic(api.ErrShape)
	}
	return t.lines, api.OK
}

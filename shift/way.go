package shift

import (
	"slices"

	"clerestory/api"
	"clerestory/hunk"
)

// moved is a hunk that goes on by so many lines.
type moved struct {
	api.Hunk
	by int
}

// told tells the hunk where it is moved to, in new memory.
func (m moved) told() api.Hunk {
	// What Invert hands out is new, so that exchanging it back copies the lines.
	turned := hunk.Invert(m.Hunk)
	return api.Hunk{At: m.At + m.by, Old: turned.New, New: turned.Old}
}

// way is one of two hunks past each other: whether it is open to them, and what they go as.
type way struct {
	open func() bool
	goes func() (moved, moved)
}

// taken tells what two hunks are by the way that is open.
func taken(ways [2]way) (first, second api.Hunk, e api.Errno) {
	for _, w := range ways {
		if !w.open() {
			continue
		}
		a, b := w.goes()
		first, second = a.told(), b.told()
		if wrong(first, second) {
			break
		}
		return first, second, api.OK
	}
	return api.Hunk{}, api.Hunk{}, api.ErrClash
}

// wrong tells whether one of the hunks is not right.
func wrong(hunks ...api.Hunk) bool {
	return slices.ContainsFunc(hunks, func(h api.Hunk) bool { return !hunk.Right(h) })
}

// apart tells whether a line at least stands between a and b, which are right, a first.
func apart(a, b api.Hunk) bool {
	return a.At+len(a.Old) < b.At
}

// more tells how many lines h's New has more than its Old.
func more(h api.Hunk) int {
	return len(h.New) - len(h.Old)
}

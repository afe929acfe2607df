package hunk_test

import (
	"math"
	"reflect"
	"slices"
	"strconv"
	"strings"
	"testing"

	"clerestory/api"
	"clerestory/hunk"
)

// letters tells a line, with its byte 10, for each byte of s; behind a dot the last one is open.
func letters(s string) []string {
	var row []string
	for i := range len(s) {
		if s[i] == '.' {
			row[len(row)-1] = strings.TrimSuffix(row[len(row)-1], "\n")
		} else {
			row = append(row, s[i:i+1]+"\n")
		}
	}
	return row
}

// exchange tells the hunk of these letters.
func exchange(at int, older, newer string) api.Hunk {
	return api.Hunk{At: at, Old: letters(older), New: letters(newer)}
}

// rows tells all rows of up to most lines out of these.
func rows(most int, lines ...string) [][]string {
	all := [][]string{nil}
	last := all
	for range most {
		var next [][]string
		for _, row := range last {
			for _, line := range lines {
				next = append(next, append(slices.Clone(row), line))
			}
		}
		all = append(all, next...)
		last = next
	}
	return all
}

// hunksOf tells the hunks from each place with each of the rows as Old and as New.
func hunksOf(from, to int, parts [][]string) []api.Hunk {
	var all []api.Hunk
	for at := from; at <= to; at++ {
		for _, older := range parts {
			for _, newer := range parts {
				all = append(all, api.Hunk{At: at, Old: older, New: newer})
			}
		}
	}
	return all
}

// plainText tells whether l is what its text is cut up into.
func plainText(l []string) bool {
	cut := strings.SplitAfter(strings.Join(l, ""), "\n")
	if cut[len(cut)-1] == "" {
		cut = cut[:len(cut)-1]
	}
	return slices.Equal(cut, l)
}

func plainRight(h api.Hunk) bool {
	if h.At < 0 || h.At > 1099511627776 {
		return false
	}
	if len(h.Old) == 0 && len(h.New) == 0 {
		return false
	}
	return plainText(h.Old) && plainText(h.New) && !slices.Equal(h.Old, h.New)
}

func plainSorted(hunks []api.Hunk) bool {
	for i, h := range hunks {
		if !plainRight(h) {
			return false
		}
		if i > 0 && h.At-hunks[i-1].At-len(hunks[i-1].Old) < 1 {
			return false
		}
	}
	return true
}

// plainApply does word for word what the chapter says.
func plainApply(l []string, hunks []api.Hunk) ([]string, api.Errno) {
	if !plainText(l) || !plainSorted(hunks) {
		return nil, api.ErrShape
	}
	for _, h := range hunks {
		if len(l) < h.At+len(h.Old) {
			return nil, api.ErrNone
		}
		for i, line := range h.Old {
			if l[h.At+i] != line {
				return nil, api.ErrOld
			}
		}
	}
	told := slices.Clone(l)
	for _, h := range slices.Backward(hunks) {
		told = slices.Replace(told, h.At, h.At+len(h.Old), h.New...)
	}
	if !plainText(told) {
		return nil, api.ErrShape
	}
	return told, api.OK
}

// checkApply holds Apply against the plain way.
func checkApply(t *testing.T, l []string, hunks ...api.Hunk) {
	t.Helper()
	got, err := hunk.Apply(l, hunks...)
	want, wantErr := plainApply(l, hunks)
	if err != wantErr || !slices.Equal(got, want) {
		t.Fatalf("Apply(%q, %v) = %q, %v, want %q, %v", l, hunks, got, err, want, wantErr)
	}
}

// P3.1: Right, Sorted, Invert.

func TestRight(t *testing.T) {
	for _, c := range []struct {
		h    api.Hunk
		want bool
	}{
		{exchange(0, "a", "b"), true},
		{exchange(0, "", "b"), true},
		{exchange(0, "a", ""), true},
		{exchange(0, "ab", "a"), true},
		{exchange(0, "a", "ab"), true},
		{exchange(0, "ab", "ba"), true},
		{exchange(0, "aa", "a"), true},
		{exchange(0, "a.", "a"), true},
		{exchange(0, "a", "a."), true},
		{exchange(0, "a.", "b."), true},
		{exchange(0, "xya.", "xyb."), true},
		{exchange(0, "a.", ""), true},
		{api.Hunk{Old: []string{"\n"}, New: []string{"\r\n"}}, true},
		{api.Hunk{Old: []string{"\n", "\n"}, New: []string{"\x00"}}, true},
		{api.Hunk{New: []string{"\xff\xfe\n", "\u2028"}}, true},
		{api.Hunk{At: 1, Old: []string{}, New: []string{"a long line\n"}}, true},
		{exchange(0, "", ""), false},
		{api.Hunk{Old: []string{}, New: nil}, false},
		{api.Hunk{Old: nil, New: []string{}}, false},
		{exchange(0, "a", "a"), false},
		{exchange(3, "ab.", "ab."), false},
		{api.Hunk{Old: []string{""}}, false},
		{api.Hunk{New: []string{""}}, false},
		{api.Hunk{Old: []string{"a\n", ""}}, false},
		{api.Hunk{New: []string{"", "a\n"}}, false},
		{api.Hunk{Old: []string{"a", "b\n"}}, false},
		{api.Hunk{New: []string{"a", "b\n"}}, false},
		{api.Hunk{Old: []string{"a\n", "b", "c"}}, false},
		{api.Hunk{New: []string{"a\n", "b", "c\n"}}, false},
		{api.Hunk{Old: []string{"a\nb\n"}}, false},
		{api.Hunk{New: []string{"a\nb"}}, false},
		{api.Hunk{Old: []string{"\n\n"}}, false},
		{api.Hunk{New: []string{"a\n", "\nb\n"}}, false},
	} {
		if got := hunk.Right(c.h); got != c.want {
			t.Errorf("Right(%v) = %v", c.h, got)
		}
		if got := hunk.Sorted(c.h); got != c.want {
			t.Errorf("Sorted(%v) = %v", c.h, got)
		}
	}
}

func TestRightHunksBeginFromNoneToTwoToTheForty(t *testing.T) {
	const most = 1 << 40
	for _, c := range []struct {
		at   int
		want bool
	}{
		{0, true}, {1, true}, {1 << 32, true}, {most - 1, true}, {most, true},
		{-1, false}, {most + 1, false}, {-most, false}, {math.MaxInt, false}, {math.MaxInt - 1, false}, {math.MinInt, false}, {math.MinInt + 1, false},
	} {
		for _, h := range []api.Hunk{exchange(c.at, "a", "b"), exchange(c.at, "", "b"), exchange(c.at, "ab", "")} {
			if got := hunk.Right(h); got != c.want {
				t.Errorf("Right(%v) = %v", h, got)
			}
		}
	}
}

func TestRightOfAllSmallHunks(t *testing.T) {
	for _, h := range hunksOf(-1, 1, rows(2, "a\n", "a", "\n", "", "\na")) {
		if got, want := hunk.Right(h), plainRight(h); got != want {
			t.Fatalf("Right(%v) = %v", h, got)
		}
	}
}

func TestSorted(t *testing.T) {
	const most = 1 << 40
	wrong := api.Hunk{At: 4, Old: []string{""}, New: []string{"b\n"}}
	for i, c := range []struct {
		hunks []api.Hunk
		want  bool
	}{
		{nil, true},
		{[]api.Hunk{}, true},
		{[]api.Hunk{exchange(7, "a", "b")}, true},
		// With one line between, with more, with none.
		{[]api.Hunk{exchange(0, "a", "b"), exchange(2, "a", "b")}, true},
		{[]api.Hunk{exchange(0, "a", "b"), exchange(3, "a", "b")}, true},
		{[]api.Hunk{exchange(0, "a", "b"), exchange(1, "a", "b")}, false},
		{[]api.Hunk{exchange(1, "ab", ""), exchange(4, "", "b")}, true},
		{[]api.Hunk{exchange(1, "ab", ""), exchange(3, "", "b")}, false},
		{[]api.Hunk{exchange(1, "ab", ""), exchange(2, "b", "c")}, false},
		{[]api.Hunk{exchange(0, "", "a"), exchange(1, "", "b")}, true},
		{[]api.Hunk{exchange(0, "", "a"), exchange(0, "", "b")}, false},
		{[]api.Hunk{exchange(0, "", "abc"), exchange(1, "", "b")}, true},
		// The same, and falling.
		{[]api.Hunk{exchange(1, "a", "b"), exchange(1, "a", "b")}, false},
		{[]api.Hunk{exchange(2, "a", "b"), exchange(0, "a", "b")}, false},
		// Those behind the second are asked, too.
		{[]api.Hunk{exchange(0, "a", "b"), exchange(2, "", "b"), exchange(3, "a", "")}, true},
		{[]api.Hunk{exchange(0, "a", "b"), exchange(2, "a", "b"), exchange(3, "a", "")}, false},
		{[]api.Hunk{exchange(0, "a", "b"), exchange(4, "a", "b"), exchange(2, "a", "b")}, false},
		// One that is not right, first, amid, last.
		{[]api.Hunk{wrong, exchange(9, "a", "b")}, false},
		{[]api.Hunk{exchange(0, "a", "b"), wrong, exchange(9, "a", "b")}, false},
		{[]api.Hunk{exchange(0, "a", "b"), wrong}, false},
		{[]api.Hunk{exchange(-1, "a", "b"), exchange(9, "a", "b")}, false},
		{[]api.Hunk{exchange(-3, "a", "b")}, false},
		// Places at their ends.
		{[]api.Hunk{exchange(most-2, "a", "b"), exchange(most, "a", "b")}, true},
		{[]api.Hunk{exchange(most-1, "a", "b"), exchange(most, "a", "b")}, false},
		{[]api.Hunk{exchange(most-1, "", "b"), exchange(most, "aaa", "b")}, true},
		{[]api.Hunk{exchange(most, "a", "b"), exchange(most+2, "a", "b")}, false},
		{[]api.Hunk{exchange(0, "a", "b"), exchange(math.MaxInt, "a", "b")}, false},
		{[]api.Hunk{exchange(math.MaxInt, "a", "b"), exchange(0, "a", "b")}, false},
		{[]api.Hunk{exchange(math.MaxInt-1, "ab", "b"), exchange(math.MaxInt, "a", "b")}, false},
		{[]api.Hunk{exchange(math.MinInt, "a", "b"), exchange(0, "a", "b")}, false},
	} {
		if got := hunk.Sorted(c.hunks...); got != c.want {
			t.Errorf("%d: Sorted(%v) = %v", i, c.hunks, got)
		}
	}
}

func TestInvert(t *testing.T) {
	for _, h := range []api.Hunk{
		exchange(0, "a", "b"),
		exchange(5, "abc", "x."),
		exchange(1<<40, "", "x"),
		exchange(2, "x", ""),
		// A hunk that is not right is turned, too.
		{},
		exchange(-1, "a", "a"),
		exchange(math.MinInt, "", ""),
		exchange(math.MaxInt, "a", "b"),
		{At: 3, Old: []string{"", "a\nb"}, New: []string{"x", "y"}},
	} {
		got := hunk.Invert(h)
		if got.At != h.At || !slices.Equal(got.Old, h.New) || !slices.Equal(got.New, h.Old) {
			t.Errorf("Invert(%v) = %v", h, got)
		}
		if hunk.Right(got) != hunk.Right(h) {
			t.Errorf("Right(%v) = %v, of its inverse %v", h, hunk.Right(h), hunk.Right(got))
		}
	}
}

// P3.2: Apply.

func TestApplyExchangesLines(t *testing.T) {
	for _, c := range []struct {
		l     string
		hunks []api.Hunk
		want  string
	}{
		{"abc", []api.Hunk{exchange(1, "b", "xy")}, "axyc"},
		{"abc", []api.Hunk{exchange(2, "c", "d.")}, "abd."},
		{"abc", nil, "abc"},
		{"ab.", nil, "ab."},
		{"", nil, ""},
		{"", []api.Hunk{exchange(0, "", "x")}, "x"},
		{"", []api.Hunk{exchange(0, "", "xy.")}, "xy."},
		{"x", []api.Hunk{exchange(0, "x", "")}, ""},
		{"x.", []api.Hunk{exchange(0, "x.", "")}, ""},
		{"x.", []api.Hunk{exchange(0, "x.", "x")}, "x"},
		{"abc", []api.Hunk{exchange(0, "", "x")}, "xabc"},
		{"abc", []api.Hunk{exchange(3, "", "x")}, "abcx"},
		{"abc", []api.Hunk{exchange(3, "", "x.")}, "abcx."},
		{"abc", []api.Hunk{exchange(0, "abc", "x")}, "x"},
		{"abc", []api.Hunk{exchange(0, "abc", "")}, ""},
		{"abc", []api.Hunk{exchange(0, "a", ""), exchange(2, "c", "x")}, "bx"},
		{"abc", []api.Hunk{exchange(0, "", "x"), exchange(1, "", "y"), exchange(2, "", "z"), exchange(3, "", "w")}, "xaybzcw"},
		{"abcdefg", []api.Hunk{exchange(1, "bc", "xyz"), exchange(4, "", "t"), exchange(6, "g", "")}, "axyzdtef"},
		// Places are those in l, however many lines were put or taken ahead.
		{"aaaa", []api.Hunk{exchange(0, "", "aaa"), exchange(3, "a", "b")}, "aaaaaab"},
		{"aaaa", []api.Hunk{exchange(0, "aa", ""), exchange(3, "a", "b")}, "ab"},
		{"abc.", []api.Hunk{exchange(0, "a", "x")}, "xbc."},
		{"abc.", []api.Hunk{exchange(2, "c.", "")}, "ab"},
		{"abc.", []api.Hunk{exchange(2, "c.", "cd")}, "abcd"},
	} {
		got, err := hunk.Apply(letters(c.l), c.hunks...)
		if err != api.OK || !slices.Equal(got, letters(c.want)) {
			t.Errorf("Apply(%s, %v) = %q, %v, want %s", c.l, c.hunks, got, err, c.want)
		}
	}
}

func TestApplyTellsWhatDoesNotFit(t *testing.T) {
	const most = 1 << 40
	for _, c := range []struct {
		l     string
		hunks []api.Hunk
		want  api.Errno
	}{
		{"abc", []api.Hunk{exchange(1, "c", "x")}, api.ErrOld},
		{"abc", []api.Hunk{exchange(1, "bb", "x")}, api.ErrOld},
		{"abc", []api.Hunk{exchange(2, "c.", "x")}, api.ErrOld},
		{"abc.", []api.Hunk{exchange(2, "c", "x")}, api.ErrOld},
		{"abc", []api.Hunk{exchange(0, "a.", "x")}, api.ErrOld},
		// One line behind the last one, and none.
		{"abc", []api.Hunk{exchange(3, "c", "")}, api.ErrNone},
		{"abc", []api.Hunk{exchange(2, "cd", "x")}, api.ErrNone},
		{"abc", []api.Hunk{exchange(4, "", "x")}, api.ErrNone},
		{"", []api.Hunk{exchange(0, "a", "")}, api.ErrNone},
		{"", []api.Hunk{exchange(1, "", "a")}, api.ErrNone},
		{"abc", []api.Hunk{exchange(most, "", "x")}, api.ErrNone},
		{"abc", []api.Hunk{exchange(most, "a", "x")}, api.ErrNone},
		{"abc", []api.Hunk{exchange(most-1, "", "x"), exchange(most, "", "x")}, api.ErrNone},
		// Too few lines come ahead of lines that differ, in one hunk.
		{"abc", []api.Hunk{exchange(0, "xbcd", "y")}, api.ErrNone},
		{"abc", []api.Hunk{exchange(2, "xy", "z")}, api.ErrNone},
		// Of several hunks the first one's error.
		{"abc", []api.Hunk{exchange(0, "x", "y"), exchange(9, "c", "d")}, api.ErrOld},
		{"abc", []api.Hunk{exchange(0, "a", "y"), exchange(2, "x", "d"), exchange(9, "c", "d")}, api.ErrOld},
		{"abc", []api.Hunk{exchange(0, "a", "y"), exchange(3, "c", "d")}, api.ErrNone},
		{"abc", []api.Hunk{exchange(0, "a", "y"), exchange(2, "b", "d")}, api.ErrOld},
		// An old line that is there only once the hunk ahead is applied.
		{"abc", []api.Hunk{exchange(0, "", "x"), exchange(3, "c", "d")}, api.ErrNone},
		{"abcd", []api.Hunk{exchange(0, "", "x"), exchange(3, "c", "e")}, api.ErrOld},
	} {
		got, err := hunk.Apply(letters(c.l), c.hunks...)
		if err != c.want || len(got) != 0 {
			t.Errorf("Apply(%s, %v) = %q, %v, want %v", c.l, c.hunks, got, err, c.want)
		}
	}
}

func TestApplyTellsAWrongShapeAheadOfAllElse(t *testing.T) {
	abc := letters("abc")
	for i, c := range []struct {
		l     []string
		hunks []api.Hunk
	}{
		{[]string{""}, nil},
		{[]string{"a\n", "", "b\n"}, nil},
		{[]string{"a\n", "b\n", ""}, nil},
		{[]string{"a", "b\n"}, nil},
		{[]string{"a\n", "b", "c"}, nil},
		{[]string{"a\n", "b\nc\n"}, nil},
		{[]string{"a\nb"}, nil},
		{[]string{"\n\n"}, nil},
		// Lines that are none, even where the hunk would mend them, and where it does not fit.
		{[]string{"a", "b\n"}, []api.Hunk{{At: 0, Old: []string{"a"}, New: []string{"a\n"}}}},
		{[]string{"a", "b\n"}, []api.Hunk{exchange(9, "x", "y")}},
		{[]string{"a", "b\n"}, []api.Hunk{exchange(0, "x", "y")}},
		// Hunks that are not sorted, even behind one that does not fit.
		{abc, []api.Hunk{{}}},
		{abc, []api.Hunk{exchange(-1, "a", "b")}},
		{abc, []api.Hunk{exchange(1<<40+1, "a", "b")}},
		{abc, []api.Hunk{exchange(math.MaxInt, "a", "b")}},
		{abc, []api.Hunk{exchange(math.MaxInt, "", "b")}},
		{abc, []api.Hunk{exchange(math.MinInt, "a", "b")}},
		{abc, []api.Hunk{exchange(0, "a", "a")}},
		{abc, []api.Hunk{{Old: []string{"a\nb\n"}, New: []string{"x\n"}}}},
		{abc, []api.Hunk{{Old: []string{"a\n"}, New: []string{"x", "y\n"}}}},
		{abc, []api.Hunk{exchange(0, "a", "x"), exchange(1, "b", "y")}},
		{abc, []api.Hunk{exchange(0, "", "x"), exchange(0, "", "y")}},
		{abc, []api.Hunk{exchange(2, "c", "x"), exchange(0, "a", "y")}},
		{abc, []api.Hunk{exchange(0, "x", "y"), {}}},
		{abc, []api.Hunk{exchange(9, "x", "y"), exchange(9, "x", "y")}},
	} {
		if got, err := hunk.Apply(c.l, c.hunks...); err != api.ErrShape || len(got) != 0 {
			t.Errorf("%d: Apply(%q, %v) = %q, %v", i, c.l, c.hunks, got, err)
		}
	}
}

func TestApplyTellsAnOpenLineAmidOthersLast(t *testing.T) {
	for _, c := range []struct {
		l     string
		hunks []api.Hunk
		want  api.Errno
	}{
		{"abc", []api.Hunk{exchange(0, "a", "d.")}, api.ErrShape},
		{"abc", []api.Hunk{exchange(1, "b", "xd.")}, api.ErrShape},
		{"abc", []api.Hunk{exchange(0, "", "d.")}, api.ErrShape},
		{"abc", []api.Hunk{exchange(2, "", "d.")}, api.ErrShape},
		{"abc.", []api.Hunk{exchange(3, "", "d")}, api.ErrShape},
		{"abc.", []api.Hunk{exchange(3, "", "d.")}, api.ErrShape},
		{"abc", []api.Hunk{exchange(0, "ab", "d."), exchange(3, "", "e")}, api.ErrShape},
		// The open line stands last, once what is behind it is taken.
		{"abc", []api.Hunk{exchange(0, "abc", "d.")}, api.OK},
		{"abc", []api.Hunk{exchange(1, "bc", "d.")}, api.OK},
		// What does not fit comes ahead of it.
		{"abc", []api.Hunk{exchange(0, "a", "d."), exchange(2, "x", "y")}, api.ErrOld},
		{"abc", []api.Hunk{exchange(0, "a", "d."), exchange(3, "x", "y")}, api.ErrNone},
	} {
		got, err := hunk.Apply(letters(c.l), c.hunks...)
		if err != c.want || err != api.OK && len(got) != 0 {
			t.Errorf("Apply(%s, %v) = %q, %v, want %v", c.l, c.hunks, got, err, c.want)
		}
	}
}

func TestApplyOfAllSmallHunks(t *testing.T) {
	texts := rows(3, "a\n", "b\n", "a")
	for _, h := range hunksOf(-1, 4, rows(2, "a\n", "b\n", "a")) {
		for _, l := range texts {
			checkApply(t, l, h)
		}
	}
}

func TestApplyOfAllSmallPairsOfHunks(t *testing.T) {
	texts := rows(3, "a\n", "b\n", "a")
	hunks := hunksOf(0, 4, rows(1, "a\n", "b\n", "a"))
	for _, h := range hunks {
		for _, g := range hunks {
			for _, l := range texts {
				checkApply(t, l, h, g)
			}
		}
	}
}

func TestApplyToMoreLinesThanATextOfALayerAbove(t *testing.T) {
	// The package has no limits of its own.
	count := 3 * api.MaxLines
	l := make([]string, count)
	var hunks []api.Hunk
	for i := range l {
		l[i] = strconv.Itoa(i) + "\n"
		if i%2 == 1 {
			hunks = append(hunks, api.Hunk{At: i, Old: []string{l[i]}, New: []string{"x\n", "y\n"}})
		}
	}
	checkApply(t, l, hunks...)
	long := strings.Repeat("z", 2*api.MaxText)
	checkApply(t, []string{long + "\n", long}, api.Hunk{At: 1, Old: []string{long}, New: []string{long + "\n"}})
}

// P3.3: what follows.

func TestAHunkThatWasAppliedIsUndoneByItsInverse(t *testing.T) {
	undone := 0
	for _, h := range hunksOf(0, 3, rows(2, "a\n", "b\n", "a")) {
		for _, l := range rows(3, "a\n", "b\n", "a") {
			told, err := hunk.Apply(l, h)
			if err != api.OK {
				continue
			}
			undone++
			if back, err := hunk.Apply(told, hunk.Invert(h)); err != api.OK || !slices.Equal(back, l) {
				t.Fatalf("%q with %v and its inverse is %q, %v", l, h, back, err)
			}
		}
	}
	if undone == 0 {
		t.Error("no hunk was applied")
	}
}

func TestHunksOneByOneFromTheLastAreAsAllAtOnce(t *testing.T) {
	hunks := hunksOf(0, 3, rows(1, "a\n", "b\n", "b"))
	applied := 0
	for _, h := range hunks {
		for _, g := range hunks {
			if !hunk.Sorted(h, g) {
				continue
			}
			for _, l := range rows(3, "a\n", "b\n", "b") {
				want, wantErr := hunk.Apply(l, h, g)
				got, err := hunk.Apply(l, g)
				if err == api.OK {
					got, err = hunk.Apply(got, h)
				}
				if (err == api.OK) != (wantErr == api.OK) || !slices.Equal(got, want) {
					t.Fatalf("%q with %v: %q, %v at once, %q, %v one by one", l, []api.Hunk{h, g}, want, wantErr, got, err)
				}
				if err == api.OK {
					applied++
				}
			}
		}
	}
	if applied == 0 {
		t.Error("no hunks were applied")
	}
}

// R3: no argument is changed, and what is told is new memory.

func TestApplyChangesAndSharesNothing(t *testing.T) {
	l := append(letters("abcde"), "behind")
	hunks := []api.Hunk{exchange(1, "b", "xy"), exchange(4, "", "z")}
	before, beforeHunks := slices.Clone(l), []api.Hunk{exchange(1, "b", "xy"), exchange(4, "", "z")}
	told, _ := hunk.Apply(l[:5], hunks...)
	same, _ := hunk.Apply(l[:5])
	if !slices.Equal(l, before) || !reflect.DeepEqual(hunks, beforeHunks) {
		t.Fatalf("Apply changed its arguments to %q, %v", l, hunks)
	}
	for i := range l {
		l[i] = "changed"
	}
	hunks[0].New[0], hunks[1].New[0] = "changed", "changed"
	if !slices.Equal(told, letters("axycdze")) || !slices.Equal(same, letters("abcde")) {
		t.Errorf("lines changed with the arguments: %q, %q", told, same)
	}
	told[0] = "written"
	if again, _ := hunk.Apply(before[:5], beforeHunks...); !slices.Equal(again, letters("axycdze")) {
		t.Errorf("Apply answers %q", again)
	}
}

func TestInvertChangesAndSharesNothing(t *testing.T) {
	h := api.Hunk{At: 2, Old: append(letters("ab"), "behind")[:2], New: append(letters("xyz"), "behind")[:3]}
	told := hunk.Invert(h)
	if !reflect.DeepEqual(h, exchange(2, "ab", "xyz")) {
		t.Fatalf("Invert changed its argument to %v", h)
	}
	h.Old[0], h.New[0] = "changed", "changed"
	if !reflect.DeepEqual(told, exchange(2, "xyz", "ab")) {
		t.Errorf("the inverse changed with the hunk: %v", told)
	}
	told.Old, told.New = append(told.Old, "put"), append(told.New, "put")
	if h.Old[:3][2] != "behind" || h.New[:4][3] != "behind" || told.New[0] != "a\n" {
		t.Errorf("the hunk and its inverse share memory: %v, %v", h, told)
	}
}

func TestRightAndSortedChangeNothing(t *testing.T) {
	hunks := []api.Hunk{exchange(0, "ab", "x"), exchange(5, "c", "yz.")}
	if !hunk.Right(hunks[0]) || !hunk.Sorted(hunks...) {
		t.Fatal("hunks that are right and sorted are not")
	}
	if want := []api.Hunk{exchange(0, "ab", "x"), exchange(5, "c", "yz.")}; !reflect.DeepEqual(hunks, want) {
		t.Errorf("the hunks were changed to %v", hunks)
	}
}

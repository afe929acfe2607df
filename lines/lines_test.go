package lines_test

import (
	"math"
	"slices"
	"strings"
	"testing"

	"clerestory/api"
	"clerestory/lines"
)

// example is the text of the chapter's example.
const example = "a\n\nb"

// wrong are numbers that are far off any text's places, lines and columns.
var wrong = []int{math.MinInt, math.MinInt + 1, math.MinInt32, -2, -1, 1 << 20, math.MaxInt32, math.MaxInt - 1, math.MaxInt}

// texts tells all texts of up to five bytes out of an ordinary one, byte 10, byte 13 and one that no UTF-8 has, and some longer ones.
func texts() []string {
	all := []string{""}
	last := all
	for range 5 {
		var next []string
		for _, s := range last {
			for _, b := range []string{"a", "\n", "\r", "\xff"} {
				next = append(next, s+b)
			}
		}
		all = append(all, next...)
		last = next
	}
	return append(all, "ab\ncde\n\nfghi\n", "ab\ncde\n\nfghi", "é\nü\u2028x\x00\n", strings.Repeat("\n", 9), strings.Repeat("xyz\n", 7)+"end")
}

// plainSplit tells the lines byte by byte, as the chapter's Words say.
func plainSplit(s string) []string {
	var l []string
	line := ""
	for i := 0; i < len(s); i++ {
		line += s[i : i+1]
		if s[i] == 10 {
			l = append(l, line)
			line = ""
		}
	}
	if line != "" {
		l = append(l, line)
	}
	return l
}

// plainPlace tells a place's line and column byte by byte, as the chapter's Words say.
func plainPlace(s string, at int) (line, column int) {
	for i := range at {
		column++
		if s[i] == 10 {
			line, column = line+1, 0
		}
	}
	return line, column
}

// P1.1: Split.

func TestSplitTellsTheLines(t *testing.T) {
	for _, c := range []struct {
		text string
		want []string
	}{
		{example, []string{"a\n", "\n", "b"}},
		{"", nil},
		{"\n", []string{"\n"}},
		{"\n\n", []string{"\n", "\n"}},
		{"a", []string{"a"}},
		{"a\n", []string{"a\n"}},
		{"a\nb", []string{"a\n", "b"}},
		{"a\nb\n", []string{"a\n", "b\n"}},
		{"\n\na\n\n\nb\n\n", []string{"\n", "\n", "a\n", "\n", "\n", "b\n", "\n"}},
		{"a\r\nb\rc", []string{"a\r\n", "b\rc"}},
		{"é\u2028\u0085\v\f\x00\n\xff", []string{"é\u2028\u0085\v\f\x00\n", "\xff"}},
	} {
		if l := lines.Split(c.text); !slices.Equal(l, c.want) {
			t.Errorf("Split(%q) = %q, want %q", c.text, l, c.want)
		}
	}
	for _, s := range texts() {
		if l, want := lines.Split(s), plainSplit(s); !slices.Equal(l, want) {
			t.Errorf("Split(%q) = %q, want %q", s, l, want)
		}
	}
}

func TestSplitHandsOutNewMemory(t *testing.T) {
	first := lines.Split(example)
	second := lines.Split(example)
	for i := range first {
		first[i] = "changed"
	}
	first = append(first[:0], "x", "y", "z", "more")
	if !slices.Equal(second, []string{"a\n", "\n", "b"}) {
		t.Errorf("an answer changed with another one: %q, %q", second, first)
	}
	if third := lines.Split(example); !slices.Equal(third, second) {
		t.Errorf("Split answers %q, then %q", second, third)
	}
}

// P1.1: Join.

func TestJoinPutsLinesBehindEachOther(t *testing.T) {
	for _, c := range []struct {
		row  []string
		want string
	}{
		{nil, ""},
		{[]string{}, ""},
		{[]string{""}, ""},
		{[]string{"", "", ""}, ""},
		{[]string{"a\n", "\n", "b"}, example},
		{[]string{"b", "a\n", "\n"}, "ba\n\n"},
		{[]string{"a", "b", "c"}, "abc"},
		{[]string{"a", "", "\nb"}, "a\nb"},
		{[]string{"\n\n", "x\ny", "\xff\x00"}, "\n\nx\ny\xff\x00"},
	} {
		if s := lines.Join(c.row); s != c.want {
			t.Errorf("Join(%q) = %q, want %q", c.row, s, c.want)
		}
	}
}

func TestJoinChangesNoArgument(t *testing.T) {
	whole := []string{"a\n", "", "\n", "b", "behind the row"}
	before := slices.Clone(whole)
	lines.Join(whole[:4])
	if !slices.Equal(whole, before) {
		t.Errorf("Join changed its row: %q, before %q", whole, before)
	}
}

// P1.2: Place.

func TestPlaceTellsLineAndColumn(t *testing.T) {
	for _, c := range []struct {
		text             string
		at, line, column int
	}{
		{example, 3, 2, 0}, // the chapter's example
		{example, 0, 0, 0},
		{example, 1, 0, 1},
		{example, 2, 1, 0},
		{example, 4, 2, 1},
		{"", 0, 0, 0},
		{"\n", 0, 0, 0},
		{"\n", 1, 1, 0},
		{"a\n", 1, 0, 1},
		{"a\n", 2, 1, 0},
		{"é\nü", 2, 0, 2}, // columns are bytes
		{"é\nü", 5, 1, 2},
	} {
		if l, p := lines.Place(c.text, c.at); l != c.line || p != c.column {
			t.Errorf("Place(%q, %d) = %d, %d, want %d, %d", c.text, c.at, l, p, c.line, c.column)
		}
	}
	for _, s := range texts() {
		for at := range len(s) + 1 {
			line, column := plainPlace(s, at)
			if l, c := lines.Place(s, at); l != line || c != column {
				t.Errorf("Place(%q, %d) = %d, %d, want %d, %d", s, at, l, c, line, column)
			}
		}
	}
}

func TestPlaceOutsideIsTheNearestOne(t *testing.T) {
	for _, s := range texts() {
		lastLine, lastColumn := plainPlace(s, len(s))
		for _, at := range append([]int{len(s) + 1}, wrong...) {
			line, column := lastLine, lastColumn
			if at < 0 {
				line, column = 0, 0
			}
			if l, c := lines.Place(s, at); l != line || c != column {
				t.Errorf("Place(%q, %d) = %d, %d, want %d, %d", s, at, l, c, line, column)
			}
		}
	}
}

// P1.2: At.

func TestAtTellsThePlace(t *testing.T) {
	for _, c := range []struct {
		text             string
		line, column, at int
		err              api.Errno
	}{
		{example, 1, 1, 0, api.ErrNone}, // the chapter's example
		{example, 0, 0, 0, api.OK},
		{example, 0, 1, 1, api.OK},
		{example, 0, 2, 0, api.ErrNone}, // that place is of the next line
		{example, 1, 0, 2, api.OK},
		{example, 2, 0, 3, api.OK},
		{example, 2, 1, 4, api.OK},
		{example, 2, 2, 0, api.ErrNone},
		{example, 3, 0, 0, api.ErrNone},
		{"", 0, 0, 0, api.OK},
		{"", 0, 1, 0, api.ErrNone},
		{"", 1, 0, 0, api.ErrNone},
		{"a", 1, 0, 0, api.ErrNone}, // behind a line without its byte 10
		{"a\n", 1, 0, 2, api.OK},    // behind one with it
		{"a\n", 1, 1, 0, api.ErrNone},
		{"a\n", 2, 0, 0, api.ErrNone},
		{"a\n", 0, -1, 0, api.ErrNone},
		{"a\n", 1, -1, 0, api.ErrNone},
		{"a\n", -1, 0, 0, api.ErrNone},
		{"a\n", -1, 2, 0, api.ErrNone},
	} {
		if p, e := lines.At(c.text, c.line, c.column); p != c.at || e != c.err {
			t.Errorf("At(%q, %d, %d) = %d, %d, want %d, %d", c.text, c.line, c.column, p, e, c.at, c.err)
		}
	}
}

func TestAtHasJustThePlacesOfTheText(t *testing.T) {
	for _, s := range texts() {
		places := map[[2]int]int{}
		for at := range len(s) + 1 {
			line, column := plainPlace(s, at)
			places[[2]int{line, column}] = at
		}
		for line := -2; line <= len(s)+2; line++ {
			for column := -2; column <= len(s)+2; column++ {
				at, there := places[[2]int{line, column}]
				want := api.OK
				if !there {
					want = api.ErrNone
				}
				if p, e := lines.At(s, line, column); p != at || e != want {
					t.Errorf("At(%q, %d, %d) = %d, %d, want %d, %d", s, line, column, p, e, at, want)
				}
			}
		}
	}
}

func TestAtRefusesWrongNumbers(t *testing.T) {
	for _, s := range []string{"", "\n", "a", "a\n", example} {
		for _, n := range wrong {
			for _, c := range [][2]int{{n, 0}, {0, n}, {n, 1}, {1, n}, {n, n}} {
				if p, e := lines.At(s, c[0], c[1]); p != 0 || e != api.ErrNone {
					t.Errorf("At(%q, %d, %d) = %d, %d, want 0, ErrNone", s, c[0], c[1], p, e)
				}
			}
		}
	}
}

// P1.3: Span.

func TestSpanTellsWhereLinesBeginAndEnd(t *testing.T) {
	for _, c := range []struct {
		text     string
		from, to int
		want     api.Span
		err      api.Errno
	}{
		{example, 1, 3, api.Span{From: 2, To: 4}, api.OK}, // the chapter's example
		{example, 0, 3, api.Span{From: 0, To: 4}, api.OK},
		{example, 0, 1, api.Span{From: 0, To: 2}, api.OK},
		{example, 0, 0, api.Span{From: 0, To: 0}, api.OK},
		{example, 1, 1, api.Span{From: 2, To: 2}, api.OK},
		{example, 2, 3, api.Span{From: 3, To: 4}, api.OK},
		{example, 3, 3, api.Span{From: 4, To: 4}, api.OK},
		{example, 3, 4, api.Span{}, api.ErrArg},
		{example, 4, 4, api.Span{}, api.ErrArg},
		{example, 2, 1, api.Span{}, api.ErrArg},
		{example, 3, 0, api.Span{}, api.ErrArg},
		{example, -1, 1, api.Span{}, api.ErrArg},
		{example, -1, -1, api.Span{}, api.ErrArg},
		{"", 0, 0, api.Span{}, api.OK},
		{"", 0, 1, api.Span{}, api.ErrArg},
		{"", 1, 1, api.Span{}, api.ErrArg},
		{"a\n", 0, 1, api.Span{From: 0, To: 2}, api.OK},
		{"a\n", 1, 1, api.Span{From: 2, To: 2}, api.OK},
		{"a\n", 1, 2, api.Span{}, api.ErrArg}, // no line begins behind the last byte 10
		{"a", 0, 1, api.Span{From: 0, To: 1}, api.OK},
		{"a", 1, 1, api.Span{From: 1, To: 1}, api.OK},
	} {
		if p, e := lines.Span(c.text, c.from, c.to); p != c.want || e != c.err {
			t.Errorf("Span(%q, %d, %d) = %v, %d, want %v, %d", c.text, c.from, c.to, p, e, c.want, c.err)
		}
	}
}

func TestSpanCutsOutTheLines(t *testing.T) {
	for _, s := range texts() {
		l := plainSplit(s)
		for from := -2; from <= len(l)+2; from++ {
			for to := -2; to <= len(l)+2; to++ {
				want, err := api.Span{}, api.ErrArg
				if 0 <= from && from <= to && to <= len(l) {
					begin := len(strings.Join(l[:from], ""))
					want, err = api.Span{From: begin, To: begin + len(strings.Join(l[from:to], ""))}, api.OK
				}
				if p, e := lines.Span(s, from, to); p != want || e != err {
					t.Errorf("Span(%q, %d, %d) = %v, %d, want %v, %d", s, from, to, p, e, want, err)
				}
			}
		}
	}
}

func TestSpanRefusesWrongNumbers(t *testing.T) {
	for _, s := range []string{"", "\n", "a", "a\n", example} {
		for _, n := range wrong {
			for _, c := range [][2]int{{n, 0}, {0, n}, {n, 1}, {1, n}, {n, n}, {n, math.MaxInt}, {math.MinInt, n}} {
				if p, e := lines.Span(s, c[0], c[1]); p != (api.Span{}) || e != api.ErrArg {
					t.Errorf("Span(%q, %d, %d) = %v, %d, want nothing, ErrArg", s, c[0], c[1], p, e)
				}
			}
		}
	}
}

// P1.4: what follows.

func TestJoinOfSplitIsTheText(t *testing.T) {
	long := strings.Repeat("a line\n\n", 1<<15) + "the last one"
	for _, s := range append(texts(), long) {
		if got := lines.Join(lines.Split(s)); got != s {
			t.Errorf("Join(Split(%.40q)) = %.40q", s, got)
		}
	}
}

func TestSplitOfJoinIsTheRow(t *testing.T) {
	rows := [][]string{nil}
	for range 3 {
		for _, row := range slices.Clone(rows) {
			for _, line := range []string{"\n", "a\n", "\xff\r\n"} {
				rows = append(rows, append(slices.Clone(row), line))
			}
		}
	}
	for _, row := range rows {
		for _, last := range [][]string{nil, {"b"}, {"\r"}} {
			whole := append(slices.Clone(row), last...)
			if got := lines.Split(lines.Join(whole)); !slices.Equal(got, whole) {
				t.Errorf("Split(Join(%q)) = %q", whole, got)
			}
		}
	}
}

func TestAtAndPlaceUndoEachOther(t *testing.T) {
	for _, s := range texts() {
		for at := range len(s) + 1 {
			line, column := lines.Place(s, at)
			if p, e := lines.At(s, line, column); p != at || e != api.OK {
				t.Errorf("At of Place(%q, %d) = %d, %d", s, at, p, e)
			}
		}
		for line := range len(s) + 2 {
			for column := range len(s) + 2 {
				at, e := lines.At(s, line, column)
				if e != api.OK {
					continue
				}
				if l, c := lines.Place(s, at); l != line || c != column {
					t.Errorf("Place of At(%q, %d, %d) = %d, %d", s, line, column, l, c)
				}
			}
		}
	}
}

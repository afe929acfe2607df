package diff_test

import (
	"reflect"
	"slices"
	"strconv"
	"strings"
	"testing"

	"clerestory/api"
	"clerestory/diff"
)

// letters tells a row with a line for each byte of s.
func letters(s string) []string {
	var row []string
	for i := range len(s) {
		row = append(row, s[i:i+1]+"\n")
	}
	return row
}

// smallRows tells all rows of up to five lines out of two, and of up to four out of three.
func smallRows() [][]string {
	var all [][]string
	for _, c := range []struct {
		lines string
		most  int
	}{{"ab", 5}, {"abc", 4}} {
		last := []string{""}
		for range c.most {
			var next []string
			for _, s := range last {
				for i := range len(c.lines) {
					next = append(next, s+c.lines[i:i+1])
				}
			}
			for _, s := range next {
				all = append(all, letters(s))
			}
			last = next
		}
	}
	return append(all, nil, []string{})
}

// numberedRow tells a row of so many lines, no two alike.
func numberedRow(count int) []string {
	row := make([]string, count)
	for i := range row {
		row[i] = strconv.Itoa(i) + "\n"
	}
	return row
}

// sameRow tells a row of so many lines, all alike.
func sameRow(line string, count int) []string {
	return slices.Repeat([]string{line}, count)
}

// plainLongest tells how long the longest row of pairs is, by trying all that may be done with the first lines.
func plainLongest(a, b []string) int {
	if len(a) == 0 || len(b) == 0 {
		return 0
	}
	most := max(plainLongest(a[1:], b), plainLongest(a, b[1:]))
	if a[0] == b[0] {
		most = max(most, 1+plainLongest(a[1:], b[1:]))
	}
	return most
}

// plainCommon goes on from the fronts, word for word as the chapter says.
func plainCommon(a, b []string) [][2]int {
	var pairs [][2]int
	i, j := 0, 0
	for i < len(a) && j < len(b) {
		if a[i] == b[j] {
			pairs = append(pairs, [2]int{i, j})
			i++
			j++
		} else if plainLongest(a[i+1:], b[j:]) >= plainLongest(a[i:], b[j+1:]) {
			i++
		} else {
			j++
		}
	}
	return pairs
}

// plainHunks goes through both rows line by line: lines that are in no pair are put to the hunk that is open.
func plainHunks(a, b []string, pairs [][2]int) []api.Hunk {
	var hunks []api.Hunk
	i, j := 0, 0
	for {
		h := api.Hunk{At: i}
		for i < len(a) && (len(pairs) == 0 || i < pairs[0][0]) {
			h.Old = append(h.Old, a[i])
			i++
		}
		for j < len(b) && (len(pairs) == 0 || j < pairs[0][1]) {
			h.New = append(h.New, b[j])
			j++
		}
		if len(h.Old)+len(h.New) > 0 {
			hunks = append(hunks, h)
		}
		if len(pairs) == 0 {
			return hunks
		}
		pairs = pairs[1:]
		i++
		j++
	}
}

// exchanged tells a with the hunks exchanged, from the last one to the first; ok is whether each stands where it says.
func exchanged(a []string, hunks []api.Hunk) (row []string, ok bool) {
	row = slices.Clone(a)
	for _, h := range slices.Backward(hunks) {
		end := h.At + len(h.Old)
		if h.At < 0 || end > len(row) || !slices.Equal(row[h.At:end], h.Old) {
			return nil, false
		}
		row = slices.Replace(row, h.At, end, h.New...)
	}
	return row, true
}

func sameHunks(a, b []api.Hunk) bool {
	return slices.EqualFunc(a, b, func(h, g api.Hunk) bool {
		return h.At == g.At && slices.Equal(h.Old, g.Old) && slices.Equal(h.New, g.New)
	})
}

// P2.1: Common.

func TestCommonTellsTheRowOfPairs(t *testing.T) {
	for _, c := range []struct {
		a, b string
		want [][2]int
	}{
		{"abc", "axc", [][2]int{{0, 0}, {2, 2}}},
		{"ab", "ba", [][2]int{{1, 0}}},
		{"", "", nil},
		{"", "abc", nil},
		{"abc", "", nil},
		{"abc", "xyz", nil},
		{"abc", "abc", [][2]int{{0, 0}, {1, 1}, {2, 2}}},
		{"xab", "ab", [][2]int{{1, 0}, {2, 1}}},
		{"ab", "xab", [][2]int{{0, 1}, {1, 2}}},
		{"abx", "ab", [][2]int{{0, 0}, {1, 1}}},
		{"b", "bb", [][2]int{{0, 0}}},
		{"bb", "b", [][2]int{{0, 0}}},
		{"aaa", "aaaaa", [][2]int{{0, 0}, {1, 1}, {2, 2}}},
		{"xaya", "aza", [][2]int{{1, 0}, {3, 2}}},
		{"abcabba", "cbabac", [][2]int{{2, 0}, {4, 1}, {5, 3}, {6, 4}}},
	} {
		if got := diff.Common(letters(c.a), letters(c.b)); !slices.Equal(got, c.want) {
			t.Errorf("Common(%s, %s) = %v, want %v", c.a, c.b, got, c.want)
		}
	}
}

func TestCommonGoesOnAsTheChapterSays(t *testing.T) {
	rows := smallRows()
	for _, a := range rows {
		for _, b := range rows {
			if got, want := diff.Common(a, b), plainCommon(a, b); !slices.Equal(got, want) {
				t.Fatalf("Common(%q, %q) = %v, want %v", a, b, got, want)
			}
		}
	}
}

func TestCommonTakesAnyTextsForLines(t *testing.T) {
	a := []string{"", "a\nb", "\n", "\xff", "a", "a\n"}
	b := []string{"", "\xff", "A", "a\n", "a"}
	if got, want := diff.Common(a, b), [][2]int{{0, 0}, {3, 1}, {5, 3}}; !slices.Equal(got, want) {
		t.Errorf("Common(%q, %q) = %v, want %v", a, b, got, want)
	}
}

func TestCommonOfAsManyLinesAsMayBe(t *testing.T) {
	most, more := numberedRow(api.MaxLines), numberedRow(api.MaxLines+1)
	if got := diff.Common(most, most); len(got) != api.MaxLines || got[api.MaxLines-1] != [2]int{api.MaxLines - 1, api.MaxLines - 1} {
		t.Errorf("Common of %d lines and themselves has %d pairs", len(most), len(got))
	}
	same := sameRow("x\n", api.MaxLines)
	if got := diff.Common(same, same); len(got) != api.MaxLines {
		t.Errorf("Common of %d lines that are alike has %d pairs", len(same), len(got))
	}
	if got, want := diff.Common(most, more[api.MaxLines-1:]), [][2]int{{api.MaxLines - 1, 0}}; !slices.Equal(got, want) {
		t.Errorf("Common of %d lines and its last one = %v", len(most), got)
	}
	last := most[api.MaxLines-1:]
	if got, want := diff.Common(last, most), [][2]int{{0, api.MaxLines - 1}}; !slices.Equal(got, want) {
		t.Errorf("Common of a last line and its row = %v", got)
	}
	for _, rows := range [][2][]string{{more, more}, {more, most}, {most, more}, {more, more[:1]}, {more[:1], more}, {more, nil}, {nil, more}} {
		if got := diff.Common(rows[0], rows[1]); len(got) != 0 {
			t.Errorf("Common of %d and %d lines has %d pairs", len(rows[0]), len(rows[1]), len(got))
		}
	}
}

func TestCommonEndsSoonWhereLongLinesDifferLate(t *testing.T) {
	long := strings.Repeat("y", 1<<12)
	a, b := make([]string, 1<<11), make([]string, 1<<11)
	for i := range a {
		a[i], b[i] = long+"a"+strconv.Itoa(1<<12+i), long+"b"+strconv.Itoa(1<<12+i)
	}
	b[7] = a[9]
	if got, want := diff.Common(a, b), [][2]int{{9, 7}}; !slices.Equal(got, want) {
		t.Errorf("Common = %v, want %v", got, want)
	}
}

func TestCommonChangesAndKeepsNothing(t *testing.T) {
	a, b := append(letters("abcab"), "behind"), append(letters("bca"), "behind")
	before, beforeB := slices.Clone(a), slices.Clone(b)
	first := diff.Common(a[:5], b[:3])
	want := slices.Clone(first)
	if !slices.Equal(a, before) || !slices.Equal(b, beforeB) {
		t.Fatalf("Common changed its arguments to %q, %q", a, b)
	}
	second := diff.Common(a[:5], b[:3])
	first[0] = [2]int{-1, -1}
	if !slices.Equal(second, want) || !slices.Equal(diff.Common(a[:5], b[:3]), want) {
		t.Errorf("Common answers %v after %v", second, want)
	}
}

// P2.2: Hunks.

func TestHunksTellTheParts(t *testing.T) {
	for _, c := range []struct {
		a, b string
		want []api.Hunk
	}{
		{"abc", "axc", []api.Hunk{{At: 1, Old: letters("b"), New: letters("x")}}},
		{"ab", "ba", []api.Hunk{{At: 0, Old: letters("a")}, {At: 2, New: letters("a")}}},
		{"", "", nil},
		{"", "ab", []api.Hunk{{At: 0, New: letters("ab")}}},
		{"ab", "", []api.Hunk{{At: 0, Old: letters("ab")}}},
		{"ab", "xyz", []api.Hunk{{At: 0, Old: letters("ab"), New: letters("xyz")}}},
		{"bc", "abc", []api.Hunk{{At: 0, New: letters("a")}}},
		{"ab", "abc", []api.Hunk{{At: 2, New: letters("c")}}},
		{"abc", "ab", []api.Hunk{{At: 2, Old: letters("c")}}},
		{"ac", "abc", []api.Hunk{{At: 1, New: letters("b")}}},
		{"bb", "b", []api.Hunk{{At: 1, Old: letters("b")}}},
		{"pqambzr", "ampbs", []api.Hunk{{At: 0, Old: letters("pq")}, {At: 4, New: letters("p")}, {At: 5, Old: letters("zr"), New: letters("s")}}},
	} {
		if got := diff.Hunks(letters(c.a), letters(c.b)); !sameHunks(got, c.want) {
			t.Errorf("Hunks(%s, %s) = %v, want %v", c.a, c.b, got, c.want)
		}
	}
}

func TestHunksAreTheGapsOfCommon(t *testing.T) {
	rows := smallRows()
	for _, a := range rows {
		for _, b := range rows {
			if got, want := diff.Hunks(a, b), plainHunks(a, b, plainCommon(a, b)); !sameHunks(got, want) {
				t.Fatalf("Hunks(%q, %q) = %v, want %v", a, b, got, want)
			}
		}
	}
}

func TestHunksOfTooManyLinesAreTheWhole(t *testing.T) {
	most, more := numberedRow(api.MaxLines), numberedRow(api.MaxLines+1)
	if got, want := diff.Hunks(most, most[1:]), []api.Hunk{{At: 0, Old: most[:1]}}; !sameHunks(got, want) {
		t.Errorf("of as many lines as may be there are %d hunks", len(got))
	}
	for _, rows := range [][2][]string{{more, most}, {most, more}, {more, nil}, {nil, more}, {more, more}} {
		if got, want := diff.Hunks(rows[0], rows[1]), []api.Hunk{{At: 0, Old: rows[0], New: rows[1]}}; !sameHunks(got, want) {
			t.Errorf("of %d and %d lines there are %d hunks", len(rows[0]), len(rows[1]), len(got))
		}
	}
}

func TestHunksChangeAndShareNothing(t *testing.T) {
	a, b := letters("pqambzr"), letters("ampbs")
	before, beforeB := slices.Clone(a), slices.Clone(b)
	told := diff.Hunks(a, b)
	if !slices.Equal(a, before) || !slices.Equal(b, beforeB) {
		t.Fatalf("Hunks changed its arguments to %q, %q", a, b)
	}
	want := diff.Hunks(before, beforeB)
	for i := range a {
		a[i] = "changed"
	}
	for i := range b {
		b[i] = "changed"
	}
	if !reflect.DeepEqual(told, want) {
		t.Fatalf("hunks changed with the rows that they come of: %v", told)
	}
	for i, h := range told {
		for k := range h.Old {
			h.Old[k] = "written"
		}
		told[i].Old = append(h.Old, "put")
		if !slices.Equal(h.New, want[i].New) {
			t.Errorf("New of hunk %d changed with its Old: %q", i, h.New)
		}
		for k := range h.New {
			h.New[k] = "written"
		}
		told[i].New = append(h.New, "put")
	}
	if again := diff.Hunks(before, beforeB); !reflect.DeepEqual(again, want) {
		t.Errorf("Hunks answers %v after %v", again, want)
	}
}

// P2.3: what follows.

func TestCommonIsALongestRow(t *testing.T) {
	rows := smallRows()
	for _, a := range rows {
		for _, b := range rows {
			pairs := diff.Common(a, b)
			if len(pairs) != plainLongest(a, b) {
				t.Fatalf("Common(%q, %q) has %d pairs, the longest row %d", a, b, len(pairs), plainLongest(a, b))
			}
			last := [2]int{-1, -1}
			for _, p := range pairs {
				if p[0] <= last[0] || p[1] <= last[1] || a[p[0]] != b[p[1]] {
					t.Fatalf("Common(%q, %q) = %v is no row of pairs", a, b, pairs)
				}
				last = p
			}
		}
	}
}

func TestNoHunkTouchesAnother(t *testing.T) {
	rows := smallRows()
	for _, a := range rows {
		for _, b := range rows {
			hunks := diff.Hunks(a, b)
			for i := 1; i < len(hunks); i++ {
				if ahead := hunks[i-1]; hunks[i].At <= ahead.At+len(ahead.Old) {
					t.Fatalf("Hunks(%q, %q) = %v touch each other", a, b, hunks)
				}
			}
		}
	}
}

func TestHunksExchangedInARowMakeTheOther(t *testing.T) {
	rows := append(smallRows(), numberedRow(300), append(numberedRow(150), sameRow("7\n", 100)...), append(sameRow("9\n", 40), numberedRow(200)...))
	for _, a := range rows {
		for _, b := range rows {
			if got, ok := exchanged(a, diff.Hunks(a, b)); !ok || !slices.Equal(got, b) {
				t.Fatalf("%.80q with Hunks(a, b) exchanged is %.80q, want %.80q", a, got, b)
			}
		}
	}
}

func TestOfARowAndItselfThereAreNoHunks(t *testing.T) {
	for _, a := range append(smallRows(), []string{"", "", "x"}, numberedRow(api.MaxLines), sameRow("", api.MaxLines)) {
		if got := diff.Hunks(a, slices.Clone(a)); len(got) != 0 {
			t.Errorf("Hunks(%.80q, itself) are %d", a, len(got))
		}
	}
}

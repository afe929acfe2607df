package shift_test

import (
	"math"
	"reflect"
	"slices"
	"strings"
	"testing"

	"clerestory/api"
	"clerestory/hunk"
	"clerestory/shift"
)

// most is the greatest place of a hunk.
const most = 1 << 40

// letters tells a line, with its byte 10, for each byte of s; behind a dot the last one is open.
func letters(s string) []string {
	var row []string
	for i := range len(s) {
		if s[i] == '.' {
			row[len(row)-1] = strings.TrimSuffix(row[len(row)-1], "\n")
		} else {
			row = append(row, s[i:i+1]+"\n")
		}
	}
	return row
}

// exchange tells the hunk of these letters.
func exchange(at int, older, newer string) api.Hunk {
	return api.Hunk{At: at, Old: letters(older), New: letters(newer)}
}

// rows tells all rows of up to longest lines out of these.
func rows(longest int, lines ...string) [][]string {
	all := [][]string{nil}
	last := all
	for range longest {
		var next [][]string
		for _, row := range last {
			for _, line := range lines {
				next = append(next, append(slices.Clone(row), line))
			}
		}
		all = append(all, next...)
		last = next
	}
	return all
}

// same tells whether two hunks are one; lists without lines and nil ones are.
func same(a, b api.Hunk) bool {
	return a.At == b.At && slices.Equal(a.Old, b.Old) && slices.Equal(a.New, b.New)
}

// answer is what Commute or Merge tells.
type answer struct {
	first, second api.Hunk
	err           api.Errno
}

func commute(p, q api.Hunk) answer {
	q2, p2, err := shift.Commute(p, q)
	return answer{q2, p2, err}
}

func merge(p, q api.Hunk) answer {
	p2, q2, err := shift.Merge(p, q)
	return answer{p2, q2, err}
}

func (a answer) is(b answer) bool {
	return a.err == b.err && same(a.first, b.first) && same(a.second, b.second)
}

// round tells the same two the other way round.
func (a answer) round() answer {
	return answer{a.second, a.first, a.err}
}

// plainBetween tells how many lines stand between a and b, a first.
func plainBetween(a, b api.Hunk) int {
	return b.At - (a.At + len(a.Old))
}

// plainMoved tells h with as many lines more in its At as past's New has more than its Old.
func plainMoved(h, past api.Hunk) api.Hunk {
	return api.Hunk{At: h.At - len(past.Old) + len(past.New), Old: h.Old, New: h.New}
}

// plainly tells the two, or that they may not be.
func plainly(first, second api.Hunk) answer {
	if first.At > most || second.At > most {
		return answer{err: api.ErrClash}
	}
	return answer{first, second, api.OK}
}

// plainCommute does word for word what P4.1 says.
func plainCommute(p, q api.Hunk) answer {
	inverse := api.Hunk{At: p.At, Old: p.New, New: p.Old}
	switch {
	case !hunk.Right(p) || !hunk.Right(q):
		return answer{err: api.ErrShape}
	case plainBetween(q, p) >= 1:
		return plainly(q, plainMoved(p, q))
	case plainBetween(inverse, q) >= 1:
		return plainly(plainMoved(q, inverse), p)
	}
	return answer{err: api.ErrClash}
}

// plainMerge does word for word what P4.2 says.
func plainMerge(p, q api.Hunk) answer {
	switch {
	case !hunk.Right(p) || !hunk.Right(q):
		return answer{err: api.ErrShape}
	case plainBetween(p, q) >= 1:
		return plainly(p, plainMoved(q, p))
	case plainBetween(q, p) >= 1:
		return plainly(plainMoved(p, q), q)
	}
	return answer{err: api.ErrClash}
}

// trial is two hunks, and what is to be told of them.
type trial struct {
	p, q api.Hunk
	want answer
}

// check holds what is told against each trial.
func check(t *testing.T, call func(p, q api.Hunk) answer, trials ...trial) {
	t.Helper()
	for i, c := range trials {
		if got := call(c.p, c.q); !got.is(c.want) {
			t.Errorf("%d: of %v and %v: %v, want %v", i, c.p, c.q, got, c.want)
		}
	}
}

// told is the answer without an error.
func told(first, second api.Hunk) answer {
	return answer{first: first, second: second}
}

// clash and misshapen are the errors' answers.
func clash() answer     { return answer{err: api.ErrClash} }
func misshapen() answer { return answer{err: api.ErrShape} }

// wrongHunks are some that are not right.
func wrongHunks() []api.Hunk {
	return []api.Hunk{
		{},
		{At: 9},
		{At: 9, Old: []string{}, New: []string{}},
		exchange(9, "a", "a"),
		exchange(9, "ab.", "ab."),
		exchange(-1, "a", "b"),
		exchange(-9, "", "b"),
		exchange(most+1, "a", "b"),
		exchange(most+1, "", "b"),
		exchange(math.MaxInt, "a", "b"),
		exchange(math.MaxInt, "", "b"),
		exchange(math.MaxInt-1, "a", ""),
		exchange(math.MaxInt-2, "ab", "xyz"),
		exchange(math.MinInt, "a", "b"),
		exchange(math.MinInt, "", "xyz"),
		exchange(math.MinInt+1, "ab", ""),
		{At: 9, Old: []string{""}},
		{At: 9, Old: []string{"a\n"}, New: []string{""}},
		{At: 9, Old: []string{"a", "b\n"}},
		{At: 9, New: []string{"a", "b"}},
		{At: 9, New: []string{"a\nb"}},
		{At: 9, Old: []string{"a\n"}, New: []string{"\n\n"}},
	}
}

// checkWrong holds each hunk that is not right, by itself and beside right ones, apart or not, against ErrShape.
func checkWrong(t *testing.T, call func(p, q api.Hunk) answer) {
	t.Helper()
	right := []api.Hunk{exchange(0, "a", "b"), exchange(9, "a", "b"), exchange(20, "", "xyz"), exchange(0, "abc", ""), exchange(most, "a", "bc")}
	for _, wrong := range wrongHunks() {
		check(t, call, trial{wrong, wrong, misshapen()})
		for _, h := range right {
			check(t, call, trial{wrong, h, misshapen()}, trial{h, wrong, misshapen()})
		}
	}
}

// P4.1: Commute.

func TestCommute(t *testing.T) {
	check(t, commute,
		// The chapter's examples.
		trial{exchange(1, "b", "xy"), exchange(4, "d", "z"), told(exchange(3, "d", "z"), exchange(1, "b", "xy"))},
		trial{exchange(1, "b", "xy"), exchange(3, "c", "z"), clash()},
		trial{exchange(3, "d", "x"), exchange(0, "a", ""), told(exchange(0, "a", ""), exchange(2, "d", "x"))},
		// q behind: with no line between, with one, with more; within p's New; across its end.
		trial{exchange(2, "c", "xyz"), exchange(5, "d", "e"), clash()},
		trial{exchange(2, "c", "xyz"), exchange(6, "e", "f"), told(exchange(4, "e", "f"), exchange(2, "c", "xyz"))},
		trial{exchange(2, "c", "xyz"), exchange(9, "e", "f"), told(exchange(7, "e", "f"), exchange(2, "c", "xyz"))},
		trial{exchange(2, "c", "xyz"), exchange(3, "y", "z"), clash()},
		trial{exchange(2, "c", "xyz"), exchange(4, "zd", "e"), clash()},
		trial{exchange(2, "abc", "x"), exchange(3, "d", "e"), clash()},
		trial{exchange(2, "abc", "x"), exchange(4, "d", "e"), told(exchange(6, "d", "e"), exchange(2, "abc", "x"))},
		trial{exchange(2, "ab", "xy"), exchange(5, "d", "e"), told(exchange(5, "d", "e"), exchange(2, "ab", "xy"))},
		// q ahead: with no line between, with one, with more; q's New may be of any length.
		trial{exchange(3, "d", "x"), exchange(2, "c", "z"), clash()},
		trial{exchange(3, "d", "x"), exchange(1, "bc", "z"), clash()},
		trial{exchange(3, "d", "x"), exchange(1, "b", "z"), told(exchange(1, "b", "z"), exchange(3, "d", "x"))},
		trial{exchange(3, "d", "x"), exchange(1, "b", "tuvw"), told(exchange(1, "b", "tuvw"), exchange(6, "d", "x"))},
		trial{exchange(3, "d", "x"), exchange(0, "a", "z"), told(exchange(0, "a", "z"), exchange(3, "d", "x"))},
		trial{exchange(3, "d", "x"), exchange(0, "ab", ""), told(exchange(0, "ab", ""), exchange(1, "d", "x"))},
		trial{exchange(3, "d", "x"), exchange(2, "cx", ""), clash()},
		// Where p is, and the very undoing of it.
		trial{exchange(3, "d", "x"), exchange(3, "x", "y"), clash()},
		trial{exchange(3, "d", "x"), exchange(3, "x", "d"), clash()},
	)
}

func TestCommuteOfHunksThatOnlyPutInOrTakeOut(t *testing.T) {
	check(t, commute,
		trial{exchange(1, "", "x"), exchange(0, "", "y"), told(exchange(0, "", "y"), exchange(2, "", "x"))},
		trial{exchange(1, "", "x"), exchange(1, "", "y"), clash()},
		trial{exchange(1, "", "x"), exchange(2, "", "y"), clash()},
		trial{exchange(1, "", "x"), exchange(3, "", "y"), told(exchange(2, "", "y"), exchange(1, "", "x"))},
		trial{exchange(0, "", "xyz"), exchange(4, "", "y"), told(exchange(1, "", "y"), exchange(0, "", "xyz"))},
		trial{exchange(0, "", "xyz"), exchange(3, "", "y"), clash()},
		trial{exchange(2, "c", ""), exchange(0, "a", ""), told(exchange(0, "a", ""), exchange(1, "c", ""))},
		trial{exchange(2, "c", ""), exchange(1, "b", ""), clash()},
		trial{exchange(2, "c", ""), exchange(2, "d", ""), clash()},
		trial{exchange(2, "c", ""), exchange(3, "e", ""), told(exchange(4, "e", ""), exchange(2, "c", ""))},
		trial{exchange(1, "bcd", ""), exchange(2, "f", ""), told(exchange(5, "f", ""), exchange(1, "bcd", ""))},
		trial{exchange(1, "", "x"), exchange(0, "a", ""), clash()},
		trial{exchange(2, "", "x"), exchange(0, "a", ""), told(exchange(0, "a", ""), exchange(1, "", "x"))},
		trial{exchange(1, "", "x"), exchange(2, "b", ""), clash()},
		trial{exchange(1, "", "x"), exchange(3, "c", ""), told(exchange(2, "c", ""), exchange(1, "", "x"))},
		trial{exchange(1, "b", ""), exchange(0, "", "x"), told(exchange(0, "", "x"), exchange(2, "b", ""))},
		trial{exchange(1, "b", ""), exchange(1, "", "x"), clash()},
		trial{exchange(1, "b", ""), exchange(2, "", "x"), told(exchange(3, "", "x"), exchange(1, "b", ""))},
	)
}

func TestCommuteOfOpenLastLines(t *testing.T) {
	check(t, commute,
		trial{exchange(1, "b", "xy"), exchange(4, "d", "z."), told(exchange(3, "d", "z."), exchange(1, "b", "xy"))},
		trial{exchange(1, "b", ""), exchange(2, "d.", "d"), told(exchange(3, "d.", "d"), exchange(1, "b", ""))},
		trial{exchange(3, "d.", ""), exchange(0, "a", "xy"), told(exchange(0, "a", "xy"), exchange(4, "d.", ""))},
		trial{exchange(3, "d", "d."), exchange(0, "", "xy"), told(exchange(0, "", "xy"), exchange(5, "d", "d."))},
		trial{exchange(3, "d", "d."), exchange(3, "d.", "d"), clash()},
		// Such hunks are right, though no text has them one behind the other: their places alone count.
		trial{exchange(1, "b", "x."), exchange(3, "d", "z."), told(exchange(3, "d", "z."), exchange(1, "b", "x."))},
		trial{exchange(3, "d.", "x."), exchange(1, "b.", "y."), told(exchange(1, "b.", "y."), exchange(3, "d.", "x."))},
	)
}

func TestCommuteAtTheEndsOfPlaces(t *testing.T) {
	check(t, commute,
		// p is moved behind the last place, and just to it.
		trial{exchange(most, "a", "b"), exchange(0, "a", "bc"), clash()},
		trial{exchange(most-1, "a", "b"), exchange(0, "a", "bc"), told(exchange(0, "a", "bc"), exchange(most, "a", "b"))},
		trial{exchange(most-1, "a", "b"), exchange(0, "a", "bcd"), clash()},
		trial{exchange(most, "a", "b"), exchange(0, "a", "b"), told(exchange(0, "a", "b"), exchange(most, "a", "b"))},
		trial{exchange(most, "a", "b"), exchange(0, "ab", "b"), told(exchange(0, "ab", "b"), exchange(most-1, "a", "b"))},
		trial{exchange(most, "", "b"), exchange(most-1, "", "b"), clash()},
		trial{exchange(most, "a", ""), exchange(most-2, "a", ""), told(exchange(most-2, "a", ""), exchange(most-1, "a", ""))},
		// q is.
		trial{exchange(0, "ab", "x"), exchange(most, "c", "d"), clash()},
		trial{exchange(0, "ab", "x"), exchange(most-1, "c", "d"), told(exchange(most, "c", "d"), exchange(0, "ab", "x"))},
		trial{exchange(0, "abc", "x"), exchange(most-1, "c", "d"), clash()},
		trial{exchange(0, "x", "abc"), exchange(most, "c", "d"), told(exchange(most-2, "c", "d"), exchange(0, "x", "abc"))},
		// As many lines as p puts in stand ahead of q at least: it never comes below 0.
		trial{exchange(0, "", "xyz"), exchange(4, "c", "d"), told(exchange(1, "c", "d"), exchange(0, "", "xyz"))},
		trial{exchange(4, "c", "d"), exchange(0, "abc", ""), told(exchange(0, "abc", ""), exchange(1, "c", "d"))},
		// Both at the last place; the one there, and at the first one.
		trial{exchange(most, "a", "b"), exchange(most, "b", "c"), clash()},
		trial{exchange(0, "a", "b"), exchange(0, "b", "c"), clash()},
		trial{exchange(0, "a", "b"), exchange(most, "b", "c"), told(exchange(most, "b", "c"), exchange(0, "a", "b"))},
	)
}

func TestCommuteOfHunksThatAreNotRight(t *testing.T) {
	checkWrong(t, commute)
}

// P4.2: Merge.

func TestMerge(t *testing.T) {
	check(t, merge,
		// The chapter's example, and the document's third.
		trial{exchange(1, "b", "xy"), exchange(3, "d", "z"), told(exchange(1, "b", "xy"), exchange(4, "d", "z"))},
		trial{exchange(0, "", "x"), exchange(4, "e", "z"), told(exchange(0, "", "x"), exchange(5, "e", "z"))},
		// With no line between, with one, with more; one in the other, across its end, over it.
		trial{exchange(2, "cd", "x"), exchange(4, "e", "z"), clash()},
		trial{exchange(2, "cd", "x"), exchange(5, "f", "z"), told(exchange(2, "cd", "x"), exchange(4, "f", "z"))},
		trial{exchange(2, "cd", "x"), exchange(8, "f", "z"), told(exchange(2, "cd", "x"), exchange(7, "f", "z"))},
		trial{exchange(2, "cde", "x"), exchange(3, "d", "z"), clash()},
		trial{exchange(2, "cd", "x"), exchange(3, "de", "z"), clash()},
		trial{exchange(2, "cd", "x"), exchange(2, "cd", "z"), clash()},
		trial{exchange(2, "cd", "x"), exchange(2, "cd", "x"), clash()},
		trial{exchange(2, "c", "x"), exchange(0, "abcde", "x"), clash()},
		// How long p's New is does not count where q is ahead, nor which of the two is the first argument.
		trial{exchange(3, "d", "xyz"), exchange(1, "b", "tu"), told(exchange(4, "d", "xyz"), exchange(1, "b", "tu"))},
		trial{exchange(1, "b", "wxyz"), exchange(3, "d", "t"), told(exchange(1, "b", "wxyz"), exchange(6, "d", "t"))},
		trial{exchange(3, "d", "x"), exchange(2, "c", "t"), clash()},
		trial{exchange(3, "d", "x"), exchange(0, "ab", "t"), told(exchange(2, "d", "x"), exchange(0, "ab", "t"))},
		// Those that only put in, and that only take out.
		trial{exchange(0, "", "x"), exchange(0, "", "y"), clash()},
		trial{exchange(0, "", "x"), exchange(0, "", "x"), clash()},
		trial{exchange(0, "", "x"), exchange(1, "", "y"), told(exchange(0, "", "x"), exchange(2, "", "y"))},
		trial{exchange(0, "", "xyz"), exchange(1, "", "y"), told(exchange(0, "", "xyz"), exchange(4, "", "y"))},
		trial{exchange(1, "", "x"), exchange(1, "b", ""), clash()},
		trial{exchange(1, "", "x"), exchange(2, "c", ""), told(exchange(1, "", "x"), exchange(3, "c", ""))},
		trial{exchange(2, "", "x"), exchange(1, "b", ""), clash()},
		trial{exchange(3, "", "x"), exchange(1, "b", ""), told(exchange(2, "", "x"), exchange(1, "b", ""))},
		trial{exchange(0, "a", ""), exchange(1, "b", ""), clash()},
		trial{exchange(0, "a", ""), exchange(2, "c", ""), told(exchange(0, "a", ""), exchange(1, "c", ""))},
		// Open last lines.
		trial{exchange(0, "a", "xy"), exchange(2, "c.", "c"), told(exchange(0, "a", "xy"), exchange(3, "c.", "c"))},
		trial{exchange(2, "c", "c."), exchange(0, "a", ""), told(exchange(1, "c", "c."), exchange(0, "a", ""))},
		trial{exchange(2, "c", "c."), exchange(2, "c", "d."), clash()},
		trial{exchange(0, "a", "x."), exchange(2, "c", "d."), told(exchange(0, "a", "x."), exchange(2, "c", "d."))},
	)
}

func TestMergeAtTheEndsOfPlaces(t *testing.T) {
	trials := []trial{
		{exchange(0, "a", "bc"), exchange(most, "a", "b"), clash()},
		{exchange(0, "a", "bc"), exchange(most-1, "a", "b"), told(exchange(0, "a", "bc"), exchange(most, "a", "b"))},
		{exchange(0, "a", "bcd"), exchange(most-1, "a", "b"), clash()},
		{exchange(0, "a", "b"), exchange(most, "a", "b"), told(exchange(0, "a", "b"), exchange(most, "a", "b"))},
		{exchange(0, "ab", "b"), exchange(most, "a", "b"), told(exchange(0, "ab", "b"), exchange(most-1, "a", "b"))},
		{exchange(most-1, "", "b"), exchange(most, "a", "b"), clash()},
		{exchange(most-2, "a", ""), exchange(most, "a", "b"), told(exchange(most-2, "a", ""), exchange(most-1, "a", "b"))},
		{exchange(most-1, "a", ""), exchange(most, "a", "b"), clash()},
		{exchange(most, "", "b"), exchange(most, "a", ""), clash()},
		{exchange(0, "abc", ""), exchange(4, "a", "b"), told(exchange(0, "abc", ""), exchange(1, "a", "b"))},
	}
	for _, c := range trials {
		check(t, merge, c, trial{c.q, c.p, c.want.round()})
	}
}

func TestMergeOfHunksThatAreNotRight(t *testing.T) {
	checkWrong(t, merge)
}

// P4.1 to P4.3 of all small hunks, right or not, from both ends of places: what follows needs no text here.

func TestAllSmallHunks(t *testing.T) {
	parts := rows(2, "a\n", "b")
	var hunks []api.Hunk
	for _, at := range []int{-1, 0, 1, 2, 3, 4, 6, most - 2, most - 1, most, most + 1} {
		for _, older := range parts {
			for _, newer := range parts {
				hunks = append(hunks, api.Hunk{At: at, Old: older, New: newer})
			}
		}
	}
	errs := map[api.Errno]int{}
	for _, p := range hunks {
		for _, q := range hunks {
			got, want := commute(p, q), plainCommute(p, q)
			if !got.is(want) {
				t.Fatalf("Commute(%v, %v) = %v, want %v", p, q, got, want)
			}
			errs[got.err]++
			if back := commute(got.first, got.second); got.err == api.OK && !back.is(told(p, q)) {
				t.Fatalf("%v, %v went past each other, and back as %v", p, q, back)
			}
			got, want = merge(p, q), plainMerge(p, q)
			if !got.is(want) {
				t.Fatalf("Merge(%v, %v) = %v, want %v", p, q, got, want)
			}
			errs[got.err]++
			if other := merge(q, p); !other.is(got.round()) {
				t.Fatalf("Merge(%v, %v) = %v, the other way round %v", p, q, got, other)
			}
		}
	}
	if errs[api.OK] == 0 || errs[api.ErrShape] == 0 || errs[api.ErrClash] == 0 {
		t.Errorf("not each answer came: %v", errs)
	}
}

func TestLongHunks(t *testing.T) {
	const many = 1 << 16
	row := slices.Repeat([]string{"a\n"}, many)
	check(t, commute,
		trial{api.Hunk{At: 3, New: row}, exchange(many+4, "b", "c"), told(exchange(4, "b", "c"), api.Hunk{At: 3, New: row})},
		trial{api.Hunk{At: 3, New: row}, exchange(many+3, "b", "c"), clash()},
		trial{api.Hunk{At: 3, Old: row}, exchange(4, "b", "c"), told(exchange(many+4, "b", "c"), api.Hunk{At: 3, Old: row})},
		trial{exchange(many+1, "b", "c"), api.Hunk{Old: row}, told(api.Hunk{Old: row}, exchange(1, "b", "c"))},
		trial{exchange(most-many, "b", "c"), api.Hunk{New: row}, told(api.Hunk{New: row}, exchange(most, "b", "c"))},
		trial{exchange(most-many+1, "b", "c"), api.Hunk{New: row}, clash()},
	)
	check(t, merge,
		trial{api.Hunk{Old: row}, exchange(many, "b", "c"), clash()},
		trial{api.Hunk{Old: row}, exchange(many+1, "b", "c"), told(api.Hunk{Old: row}, exchange(1, "b", "c"))},
		trial{exchange(1, "b", "c"), api.Hunk{New: row}, told(exchange(many+1, "b", "c"), api.Hunk{New: row})},
	)
}

// P4.3: what follows.

// texts tells all small texts' lines.
func texts() [][]string {
	var all [][]string
	for _, l := range rows(4, "a\n", "b\n", "a") {
		if _, err := hunk.Apply(l); err == api.OK {
			all = append(all, l)
		}
	}
	return all
}

// fitting tells the hunks that take out up to two lines of l, put in up to two, and may be applied.
func fitting(l []string) []api.Hunk {
	var all []api.Hunk
	for at := range len(l) + 1 {
		for size := range min(2, len(l)-at) + 1 {
			for _, newer := range rows(2, "a\n", "x") {
				h := api.Hunk{At: at, Old: l[at : at+size], New: newer}
				if _, err := hunk.Apply(l, h); err == api.OK {
					all = append(all, h)
				}
			}
		}
	}
	return all
}

// done tells l with one hunk behind the other.
func done(t *testing.T, l []string, first, second api.Hunk) []string {
	t.Helper()
	amid, err := hunk.Apply(l, first)
	if err != api.OK {
		t.Fatalf("%v does not apply to %q: %v", first, l, err)
	}
	last, err := hunk.Apply(amid, second)
	if err != api.OK {
		t.Fatalf("%v does not apply to %q, behind %v: %v", second, l, first, err)
	}
	return last
}

func TestWhatCommuteTellsDoesTheSameAndGoesBack(t *testing.T) {
	past := 0
	for _, l := range texts() {
		for _, p := range fitting(l) {
			amid, _ := hunk.Apply(l, p)
			for _, q := range fitting(amid) {
				got := commute(p, q)
				if got.err != api.OK {
					continue
				}
				past++
				want, other := done(t, l, p, q), done(t, l, got.first, got.second)
				if !slices.Equal(want, other) {
					t.Fatalf("%q with %v, %v is %q, with %v, %v %q", l, p, q, want, got.first, got.second, other)
				}
				if back := commute(got.first, got.second); !back.is(told(p, q)) {
					t.Fatalf("%v, %v went past each other, and back as %v", p, q, back)
				}
			}
		}
	}
	if past == 0 {
		t.Error("no hunks went past each other")
	}
}

func TestWhatMergeTellsDoesTheSameInEitherOrder(t *testing.T) {
	merged := 0
	for _, l := range texts() {
		hunks := fitting(l)
		for _, p := range hunks {
			for _, q := range hunks {
				got := merge(p, q)
				if other := merge(q, p); !other.is(got.round()) {
					t.Fatalf("Merge(%v, %v) = %v, the other way round %v", p, q, got, other)
				}
				if got.err != api.OK {
					continue
				}
				merged++
				one, other := done(t, l, p, got.second), done(t, l, q, got.first)
				if !slices.Equal(one, other) {
					t.Fatalf("%q with %v, %v merged is %q, or %q", l, p, q, one, other)
				}
			}
		}
	}
	if merged == 0 {
		t.Error("no hunks were merged")
	}
}

// R3: no argument is changed, and what is told is new memory.

// roomy tells the hunk of these letters, with a line behind each of its lists that is not its own.
func roomy(at int, older, newer string) api.Hunk {
	h := exchange(at, older, newer)
	h.Old = append(h.Old, "behind")[:len(h.Old)]
	h.New = append(h.New, "behind")[:len(h.New)]
	return h
}

// scribble writes over the lines of the hunks, and over what lies behind them.
func scribble(word string, hunks ...api.Hunk) {
	for _, h := range hunks {
		for _, l := range [][]string{h.Old, h.New} {
			for i := range l[:cap(l)] {
				l[:cap(l)][i] = word
			}
		}
	}
}

func TestNothingIsChangedOrShared(t *testing.T) {
	for name, call := range map[string]func(p, q api.Hunk) answer{"Commute": commute, "Merge": merge} {
		for _, at := range [][2]int{{1, 9}, {9, 1}} {
			p, q := roomy(at[0], "ab", "x"), roomy(at[1], "c", "yz")
			want := call(exchange(at[0], "ab", "x"), exchange(at[1], "c", "yz"))
			got := call(p, q)
			if !reflect.DeepEqual([]api.Hunk{p, q}, []api.Hunk{exchange(at[0], "ab", "x"), exchange(at[1], "c", "yz")}) {
				t.Fatalf("%s changed its arguments to %v, %v", name, p, q)
			}
			if p.Old[:3][2] != "behind" || p.New[:2][1] != "behind" || q.Old[:2][1] != "behind" || q.New[:3][2] != "behind" {
				t.Fatalf("%s wrote behind its arguments", name)
			}
			scribble("changed", p, q)
			if got.err != api.OK || !got.is(want) {
				t.Errorf("%s: what was told changed with the arguments: %v, want %v", name, got, want)
			}
			scribble("written", got.first, got.second)
			if p.Old[0] != "changed" || p.New[0] != "changed" || q.Old[0] != "changed" || q.New[0] != "changed" {
				t.Errorf("%s: the arguments changed with what was told: %v, %v", name, p, q)
			}
		}
	}
}

func TestListsOfOneAnswerShareNothing(t *testing.T) {
	row := letters("abc")
	for name, call := range map[string]func(p, q api.Hunk) answer{"Commute": commute, "Merge": merge} {
		// All lists of the arguments are pieces of one row.
		got := call(api.Hunk{At: 9, Old: row[:2], New: row}, api.Hunk{At: 1, Old: row[1:], New: row[:1]})
		if !got.is(call(exchange(9, "ab", "abc"), exchange(1, "bc", "a"))) || got.err != api.OK {
			t.Fatalf("%s tells %v", name, got)
		}
		lists := [][]string{got.first.Old, got.first.New, got.second.Old, got.second.New}
		for i, l := range lists {
			before := slices.Concat(slices.Delete(slices.Clone(lists), i, i+1)...)
			scribble("written", api.Hunk{Old: l})
			if after := slices.Concat(slices.Delete(slices.Clone(lists), i, i+1)...); !slices.Equal(before, after) {
				t.Errorf("%s: list %d of the answer shares memory with another one", name, i)
			}
		}
		if !slices.Equal(row, letters("abc")) {
			t.Errorf("%s: the answer shares memory with the arguments", name)
		}
	}
}

// R6: lists without lines and nil ones are one.

func TestListsWithoutLinesAndNilOnesAreOne(t *testing.T) {
	for _, at := range [][2]int{{0, 5}, {5, 0}, {3, 3}} {
		p, q := exchange(at[0], "", "x"), exchange(at[1], "ab", "")
		p2, q2 := p, q
		p2.Old, q2.New = []string{}, []string{}
		if !commute(p, q).is(commute(p2, q2)) || !merge(p, q).is(merge(p2, q2)) {
			t.Errorf("of %v, %v and of %v, %v: not the same", p, q, p2, q2)
		}
	}
	check(t, commute, trial{api.Hunk{At: 4, Old: []string{}, New: []string{}}, exchange(0, "a", "b"), misshapen()})
	check(t, merge, trial{exchange(0, "a", "b"), api.Hunk{At: 4, Old: []string{}, New: nil}, misshapen()})
}

package diff

import (
	"iter"
	"strings"

	"clerestory/api"
)

// between yields the parts of a and b ahead of, between and behind the pairs, in order, unless they are empty in both.
func between(a, b []string, pairs [][2]int) iter.Seq[api.Hunk] {
	// A pair behind both ends makes the last part one like all others.
	ends := append(pairs, [2]int{len(a), len(b)})
	return func(yield func(api.Hunk) bool) {
		i, j := 0, 0
		for _, p := range ends {
			if (i < p[0] || j < p[1]) && !yield(exchange(i, a[i:p[0]], b[j:p[1]])) {
				return
			}
			i, j = p[0]+1, p[1]+1
		}
	}
}

// exchange tells the hunk that puts newer where older stands, from at on.
func exchange(at int, older, newer []string) api.Hunk {
	return api.Hunk{At: at, Old: copied(older), New: copied(newer)}
}

// copied tells the lines in new memory, since hunks share none with the rows that they come of.
func copied(row []string) []string {
	var told []string
	for _, line := range row {
		told = append(told, strings.Clone(line))
	}
	return told
}

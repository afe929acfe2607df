package lines

import "strings"

// writer puts a text together; the builder's calls are its own.
type writer struct {
	strings.Builder
}

// putLines puts the lines of l behind what is there.
func (w *writer) putLines(l []string) {
	for _, line := range l {
		w.WriteString(line)
	}
}

package diff

// numbered tells a and b with a number for each line, the same one for the same line: so lines are read once, however often they are compared.
func numbered(a, b []string) (x, y []int) {
	numbers := make(map[string]int)
	number := func(row []string) []int {
		told := make([]int, len(row))
		for i, line := range row {
			n, seen := numbers[line]
			if !seen {
				n = len(numbers)
				numbers[line] = n
			}
			told[i] = n
		}
		return told
	}
	return number(a), number(b)
}

// lengths tells, at [i][j], how many pairs the longest row of x from i on and y from j on has. They are at most api.MaxLines, so 16 bits hold them.
func lengths(x, y []int) [][]uint16 {
	table := make([][]uint16, len(x)+1)
	table[len(x)] = make([]uint16, len(y)+1)
	fill := func(i int) {
		row, behind := make([]uint16, len(y)+1), table[i+1]
		for j := len(y) - 1; j >= 0; j-- {
			if x[i] == y[j] {
				row[j] = behind[j+1] + 1
			} else {
				row[j] = max(behind[j], row[j+1])
			}
		}
		table[i] = row
	}
	for i := len(x) - 1; i >= 0; i-- {
		fill(i)
	}
	return table
}

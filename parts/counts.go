package parts

// partitions returns those of n into parts of at most most, rising.
func partitions(n, most int) [][]int {
	if n == 0 {
		return [][]int{{}}
	}
	var list [][]int
	for first := 1; first <= min(n, most); first++ {
		for _, rest := range partitions(n-first, first) {
			list = append(list, append([]int{first}, rest...))
		}
	}
	return list
}

func anyPart(int) bool { return true }

// ways returns how many partitions n has into allowed parts any two of which
// differ by at least gap.
func ways(n, gap int, allowed func(part int) bool) int {
	// The row for p counts, for each sum, the partitions into parts up to p:
	// those without the part p, and those with it.
	rows := [][]int{make([]int, n+1)}
	rows[0][0] = 1
	for p := 1; p <= n; p++ {
		row := append([]int{}, rows[p-1]...)
		rows = append(rows, row)
		if !allowed(p) {
			continue
		}
		// With gap 0 this is the row itself, so that p comes any number of times.
		below := rows[max(p-gap, 0)]
		for sum := p; sum <= n; sum++ {
			row[sum] += below[sum-p]
		}
	}
	return rows[n][n]
}

// evenLessOdd returns the number of partitions of n into an even number of
// different parts, less that into an odd number.
func evenLessOdd(n int) int {
	list := make([]int, n+1)
	list[0] = 1
	for part := 1; part <= n; part++ {
		// Downwards, so that no part comes twice; each part turns the sign.
		for sum := n; sum >= part; sum-- {
			list[sum] -= list[sum-part]
		}
	}
	return list[n]
}

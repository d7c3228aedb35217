package shares

import "slices"

// divisors returns those of n, rising.
func divisors(n int) []int {
	var list []int
	for d := 1; d*d <= n; d++ {
		if n%d == 0 {
			list = append(list, d, n/d)
		}
	}
	slices.Sort(list)
	return slices.Compact(list)
}

// complete reports whether each number up to the sum of the rising list is a sum
// of different numbers in it.
func complete(list []int) bool {
	sum := 0
	for _, d := range list {
		// d - 1 can be had from nothing but the numbers before d.
		if d > sum+1 {
			return false
		}
		sum += d
	}
	return true
}

// summands returns different numbers of the rising list, falling, that sum to m:
// each time the greatest one with which it can be done. It returns nil if there
// are none; m is at least 1.
func summands(list []int, m int) []int {
	sums := []int{0} // of the first numbers of the list
	for i, d := range list {
		sums = append(sums, sums[i]+d)
	}
	// take uses the first i numbers only.
	var take func(i, m int) []int
	take = func(i, m int) []int {
		for ; sums[i] >= m; i-- {
			d := list[i-1]
			if d == m {
				return []int{d}
			}
			if d > m {
				continue
			}
			if rest := take(i-1, m-d); rest != nil {
				return append([]int{d}, rest...)
			}
		}
		return nil
	}
	return take(len(list), m)
}

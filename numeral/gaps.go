package numeral

import (
	"cmp"
	"slices"
)

// coprime reports whether a and b, both at least 1, have no factor in common.
func coprime(a, b int) bool {
	for b > 0 {
		a, b = b, a%b
	}
	return a == 1
}

// gaps returns how often each distance from a point to the next one occurs, for
// the n multiples of p from 0 on, modulo m.
func gaps(p, m, n int) map[int]int {
	points := make([]int, n)
	for i := range points {
		points[i] = i * p % m
	}
	slices.Sort(points)
	// The point after the last one is 0 again, one turn later.
	points = append(points, m)
	times := map[int]int{}
	for i := range n {
		times[points[i+1]-points[i]]++
	}
	return times
}

// counted returns all keys of times, rising, each with its count.
func counted(times map[int]int) [][2]int {
	var list [][2]int
	for gap, count := range times {
		list = append(list, [2]int{gap, count})
	}
	slices.SortFunc(list, func(a, b [2]int) int { return cmp.Compare(a[0], b[0]) })
	return list
}

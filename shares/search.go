package shares

import "math"

// unlimited is the limit for denominators that have none.
const unlimited = math.MaxInt

// finder returns a search for the first list of so many denominators, compared
// from the front, whose unit fractions sum to f: none of them below least or
// above most, and each at least gap more than the one before it. What it returns
// is nil if there is no such list.
func finder(gap, most int) func(f fraction, terms, least int) []int {
	var find func(f fraction, terms, least int) []int
	find = func(f fraction, terms, least int) []int {
		if terms == 1 {
			d := f.den / f.num
			if f.den%f.num != 0 || d < least || d > most {
				return nil
			}
			return []int{d}
		}
		// 1/d is less than f, and at least the mean of all terms.
		end := min(most, terms*f.den/f.num)
		for d := max(least, f.den/f.num+1); d <= end; d++ {
			if rest := find(f.minus(d), terms-1, d+gap); rest != nil {
				return append([]int{d}, rest...)
			}
		}
		return nil
	}
	return find
}

// last returns the first of those sums for f with so many terms whose first
// denominator is the greatest, or nil if there is no sum.
func last(f fraction, terms int) []int {
	find := finder(1, unlimited)
	if terms == 1 {
		return find(f, 1, 1)
	}
	for d := terms * f.den / f.num; d > f.den/f.num; d-- {
		if rest := find(f.minus(d), terms-1, d+1); rest != nil {
			return append([]int{d}, rest...)
		}
	}
	return nil
}

package shares

import "gherkin/api"

// fraction is num / den, not always in lowest terms: a share, or what is left of
// one. Both are at least 1, unless nothing is left.
type fraction struct{ num, den int }

func validShare(a, b int) bool {
	return a >= 1 && a < b && b <= maxB
}

// least returns the least d of which 1/d is at most f.
func (f fraction) least() int {
	return (f.den + f.num - 1) / f.num
}

// minus returns f less 1/d.
func (f fraction) minus(d int) fraction {
	return fraction{f.num*d - f.den, f.den * d}
}

// greedy returns the sum that takes the greatest unit fraction each time.
func (f fraction) greedy() ([]int, api.Errno) {
	var list []int
	for {
		d := f.least()
		list = append(list, d)
		left := f.num*d - f.den
		if left == 0 {
			return list, api.OK
		}
		// The next denominator is den d / left, rounded up. This is compared
		// without den d, which may be too great for an int.
		if f.den > maxDenominator*left/d {
			return nil, api.ErrSize
		}
		f = f.minus(d)
	}
}

// acceptable reports whether l is rising, and has at most as many denominators,
// and as great ones, as Check accepts.
func acceptable(l []int) bool {
	if len(l) > maxChecked {
		return false
	}
	before := 1
	for _, d := range l {
		if d <= before || d > maxAccepted {
			return false
		}
		before = d
	}
	return true
}

// equals reports whether the unit fractions of l, which is acceptable, sum to f.
func (f fraction) equals(l []int) bool {
	// What is left in the end is a fraction whose numerator, without its sign, may
	// be too great for an int, but is below 10^60: it is 0 if it is so modulo five
	// primes above 10^12.
	for _, p := range [...]int{1_000_000_000_039, 1_000_000_000_061, 1_000_000_000_063, 1_000_000_000_091, 1_000_000_000_121} {
		num, den := f.num, f.den
		for _, d := range l {
			num, den = (num*d-den)%p, den*d%p
		}
		if num != 0 {
			return false
		}
	}
	return true
}

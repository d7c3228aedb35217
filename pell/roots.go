package pell

import (
	"iter"
	"math/bits"

	"gherkin/api"
)

// root returns the greatest whole number whose square is not above n, n at
// least 0.
func root(n int) int {
	if n == 0 {
		return 0
	}
	// Newton's steps from above fall until they are there.
	r := 1 << ((bits.Len(uint(n)) + 1) / 2)
	for {
		next := (r + n/r) / 2
		if next >= r {
			return r
		}
		r = next
	}
}

func validD(d int) bool {
	if d < 2 || d > api.MaxD {
		return false
	}
	r := root(d)
	return r*r != d
}

// terms yields the numbers of the continued fraction of the square root of d,
// without end.
func terms(d int) iter.Seq[int] {
	return func(yield func(int) bool) {
		first := root(d)
		m, below, a := 0, 1, first
		for yield(a) {
			m = below*a - m
			below = (d - m*m) / below
			a = (first + m) / below
		}
	}
}

// convergents yields p and q with the indices 0, 1, .. as long as p is at most
// 10^18.
func convergents(d int) iter.Seq2[int, int] {
	return func(yield func(int, int) bool) {
		p, q, lastP, lastQ := 1, 0, 0, 1
		for a := range terms(d) {
			// The product itself might be too large for an int.
			if p > (maxNumerator-lastP)/a {
				return
			}
			p, lastP = a*p+lastP, p
			q, lastQ = a*q+lastQ, q
			if !yield(p, q) {
				return
			}
		}
	}
}

// unit returns the unit and its norm. The unit is the first convergent whose
// norm is 1 or -1.
func unit(d int) (x, y, norm int) {
	for p, q := range convergents(d) {
		norm = p*p - d*q*q
		if norm == 1 || norm == -1 {
			return p, q, norm
		}
	}
	return 0, 0, 0
}

// right returns the right unit.
func right(d int) (x, y int) {
	x, y, norm := unit(d)
	if norm == 1 {
		return x, y
	}
	return x*x + d*y*y, 2 * x * y
}

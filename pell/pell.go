// Package pell is layer 1: see shared/doc/01-pell.md. It expands square roots
// as continued fractions, and finds units, the solutions of x^2 - D y^2 = n
// with their classes, and moduli that show that there are none.
package pell

import (
	"cmp"
	"slices"

	"gherkin/api"
)

const (
	maxN         = 100 // n, without its sign
	maxIndex     = 20  // the index of a convergent
	maxMost      = 5000
	maxBest      = 1000
	maxModulus   = 100
	maxX         = 1_000_000 // x of a pair that Same is given, without its sign
	maxY         = 100_000   // and its y
	maxNumerator = 1_000_000_000_000_000_000
)

// Expand returns the greatest whole number not above the square root of d, and
// then the period of its continued fraction.
func Expand(d int) ([]int, api.Errno) {
	if !validD(d) {
		return nil, api.ErrArg
	}
	var list []int
	for a := range terms(d) {
		list = append(list, a)
		if a == 2*list[0] {
			break
		}
	}
	return list, api.OK
}

// Convergent returns the numerator and the denominator of the convergent with
// the index k.
func Convergent(d, k int) (p, q int, e api.Errno) {
	if !validD(d) || k < 0 || k > maxIndex {
		return 0, 0, api.ErrArg
	}
	for p, q := range convergents(d) {
		if k == 0 {
			return p, q, api.OK
		}
		k--
	}
	return 0, 0, api.ErrSize
}

// Unit returns the unit and its norm, x^2 - d y^2.
func Unit(d int) (x, y, norm int, e api.Errno) {
	if !validD(d) {
		return 0, 0, 0, api.ErrArg
	}
	x, y, norm = unit(d)
	return x, y, norm, api.OK
}

// Right returns the right unit, that with the norm 1.
func Right(d int) (x, y int, e api.Errno) {
	if !validD(d) {
		return 0, 0, api.ErrArg
	}
	x, y = right(d)
	return x, y, api.OK
}

// Solve returns all solutions with x at least 0 and y from 0 to most, rising
// by y.
func Solve(d, n, most int) ([][2]int, api.Errno) {
	if !validD(d) || !validN(n) || most < 0 || most > maxMost {
		return nil, api.ErrArg
	}
	var list [][2]int
	for x, y := range solutions(d, n, most) {
		list = append(list, [2]int{x, y})
	}
	return list, api.OK
}

// Classes returns for each class of solutions its first one: that with the
// least y, at least 0, and of these with the greatest x.
func Classes(d, n int) ([][2]int, api.Errno) {
	if !validD(d) || !validN(n) {
		return nil, api.ErrArg
	}
	var firsts [][2]int
	for x, y := range solutions(d, n, highest(d, n)) {
		for _, s := range [][2]int{{x, y}, {-x, y}} {
			known := func(first [2]int) bool { return oneClass(d, n, first, s) }
			if !slices.ContainsFunc(firsts, known) {
				firsts = append(firsts, s)
			}
		}
	}
	slices.SortFunc(firsts, func(a, b [2]int) int {
		return cmp.Or(cmp.Compare(a[1], b[1]), cmp.Compare(a[0], b[0]))
	})
	return firsts, api.OK
}

// Same reports whether two solutions are of one class.
func Same(d, n int, a, b [2]int) (bool, api.Errno) {
	if !validD(d) || !validN(n) || !solves(d, n, a) || !solves(d, n, b) {
		return false, api.ErrArg
	}
	return oneClass(d, n, a, b), api.OK
}

// Obstruct returns the least modulus from 2 to 100 for which there is no
// solution.
func Obstruct(d, n int) (int, api.Errno) {
	if !validD(d) || !validN(n) {
		return 0, api.ErrArg
	}
	for m := 2; m <= maxModulus; m++ {
		if !solvable(d, n, m) {
			return m, api.OK
		}
	}
	return 0, api.ErrNone
}

// Best returns the numerator and the denominator, from 1 to most, of the best
// fraction for the square root of d.
func Best(d, most int) (p, q int, e api.Errno) {
	if !validD(d) || most < 1 || most > maxBest {
		return 0, 0, api.ErrArg
	}
	// No fraction is nearer, in the sense of Best, before the next convergent's
	// denominator is reached. Where two convergents have the denominator 1, the
	// second one is the nearer one.
	for nextP, nextQ := range convergents(d) {
		if nextQ > most {
			break
		}
		p, q = nextP, nextQ
	}
	return p, q, api.OK
}

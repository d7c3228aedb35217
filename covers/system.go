package covers

import "gherkin/api"

// system is a slice of pairs [a, m]. A pair covers the days n for which n less
// a is divisible by m.
type system [][2]int

func (l system) valid() bool {
	if len(l) < 1 || len(l) > api.MaxTerms {
		return false
	}
	for _, pair := range l {
		a, m := pair[0], pair[1]
		if m < 1 || m > maxModulus || a < 0 || a >= m {
			return false
		}
	}
	return l.whole() <= api.MaxWhole
}

// whole returns the least common multiple of all moduli, which may be above
// api.MaxWhole. Of so few moduli, none above 60, it is below 2^63.
func (l system) whole() int {
	w := 1
	for _, pair := range l {
		w *= pair[1] / gcd(w, pair[1])
	}
	return w
}

// times returns how many pairs cover a day.
func (l system) times(day int) int {
	count := 0
	for _, pair := range l {
		if (day-pair[0])%pair[1] == 0 {
			count++
		}
	}
	return count
}

// leastDay returns the least day from a given one on for which something holds
// that depends on nothing but the pairs that cover the day.
func (l system) leastDay(from int, holds func(day int) bool) (int, api.Errno) {
	end := from + l.whole()
	for day := from; day < end; day++ {
		if holds(day) {
			return day, api.OK
		}
	}
	return 0, api.ErrNone
}

// covered returns how many of the days from 0 to days - 1 are covered.
func (l system) covered(days int) int {
	count := 0
	for day := range days {
		if l.times(day) > 0 {
			count++
		}
	}
	return count
}

// replaced returns l with other pairs, or none, in place of the one with the
// index i. l is cut before that one, so that no pair is appended over it.
func (l system) replaced(i int, others system) system {
	return append(append(l[:i:i], others...), l[i+1:]...)
}

// refined returns r pairs with a modulus r times as great that together cover
// the same days as a pair, each of them once.
func refined(pair [2]int, r int) system {
	a, m := pair[0], pair[1]
	var l system
	for i := range r {
		l = append(l, [2]int{a + i*m, m * r})
	}
	return l
}

// gcd returns the greatest common factor of numbers that are at least 1.
func gcd(a, b int) int {
	for b > 0 {
		a, b = b, a%b
	}
	return a
}

// fraction returns num / den in lowest terms; num is at least 1.
func fraction(num, den int) api.Frac {
	g := gcd(num, den)
	return api.Frac{Num: num / g, Den: den / g}
}

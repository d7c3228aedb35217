package sums

import "gherkin/api"

// order is what the numbers of order n are counted with.
type order struct {
	n    int
	zero polynomial // C(n), which is 0 at z
}

// orderOf returns the order n; false if there is none, or if one of the numbers is
// not of that order, with elements from -most to most.
func orderOf(n, most int, numbers ...[]int) (order, bool) {
	if n < 1 || n > api.MaxRoot {
		return order{}, false
	}
	o := order{n, cyclotomic(n)}
	for _, a := range numbers {
		if len(a) != o.zero.degree() || !within(most, a...) {
			return order{}, false
		}
	}
	return o, true
}

// within reports whether all elements are from -most to most.
func within(most int, elements ...int) bool {
	for _, x := range elements {
		if x < -most || x > most {
			return false
		}
	}
	return true
}

func (o order) add(a, b []int) []int {
	sum := make([]int, len(a))
	for k := range sum {
		sum[k] = a[k] + b[k]
	}
	return sum
}

func (o order) times(a, b []int) []int {
	return o.reduced(polynomial(a).times(b))
}

// turn returns a turned by t. As z^n is 1, no power of z above n - 1 is needed.
func (o order) turn(a []int, t int) []int {
	turned := make(polynomial, o.n)
	for k, x := range a {
		turned[k*t%o.n] += x
	}
	return o.reduced(turned)
}

// reduced returns the number that p is at z; p has at least as many coefficients.
func (o order) reduced(p polynomial) []int {
	_, rest := p.divided(o.zero)
	return rest
}

// joined returns what join makes of a turned by all t, which is a whole number:
// its other elements are 0. With elements up to 2 none of the factors of a norm has
// an absolute value above 24, so that an int has room for all that leads to it.
func (o order) joined(a []int, join func(a, b []int) []int) int {
	all := a
	for t := 2; t < o.n; t++ {
		if coprime(t, o.n) {
			all = join(all, o.turn(a, t))
		}
	}
	return all[0]
}

// gauss returns the sum of Gauss, n being an odd prime.
func (o order) gauss() []int {
	sum := make(polynomial, o.n)
	for a := 1; a < o.n; a++ {
		sum[a] = symbol(a, o.n)
	}
	return o.reduced(sum)
}

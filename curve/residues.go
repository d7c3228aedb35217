package curve

import "gherkin/api"

// isModulus reports whether there are curves over p.
func isModulus(p int) bool { return p >= 5 && p <= api.MaxPrime && isPrime(p) }

func isPrime(n int) bool {
	for d := 2; d*d <= n; d++ {
		if n%d == 0 {
			return false
		}
	}
	return n > 1
}

// isRest reports whether x is a number modulo m.
func isRest(x, m int) bool { return x >= 0 && x < m }

// isUnit reports whether x is a number modulo the prime m by which others can be
// divided.
func isUnit(x, m int) bool { return isRest(x, m) && x != 0 }

// rest returns x modulo m.
func rest(x, m int) int { return (x%m + m) % m }

// quotient returns x / y modulo the prime m, which does not divide y.
func quotient(x, y, m int) int {
	z := 0
	for (z*y-x)%m != 0 {
		z++
	}
	return z
}

// leastNoSquare returns the least number that is no square modulo the prime p.
func leastNoSquare(p int) int {
	u := 2
	for isSquare(u, p) {
		u++
	}
	return u
}

func isSquare(u, p int) bool {
	for x := range p {
		if (x*x-u)%p == 0 {
			return true
		}
	}
	return false
}

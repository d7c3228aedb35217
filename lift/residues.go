package lift

func validPrime(p int) bool {
	switch p {
	case 2, 3, 5, 7, 11, 13:
		return true
	}
	return false
}

// power returns p^k; false if p or k is not valid, or p^k is too great.
func power(p, k int) (int, bool) {
	if !validPrime(p) || k < 1 {
		return 0, false
	}
	m := 1
	for range k {
		m *= p
		if m > maxPower {
			return 0, false
		}
	}
	return m, true
}

// residue returns n modulo m, from 0 to m - 1.
func residue(n, m int) int {
	return (n%m + m) % m
}

// inverse returns the residue modulo p that is 1 if n, which p does not divide,
// is multiplied by it.
func inverse(n, p int) int {
	for d := range p {
		if residue(n*d, p) == 1 {
			return d
		}
	}
	return 0
}

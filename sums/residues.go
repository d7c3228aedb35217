package sums

// coprime reports whether a and b, of which one is above 0, have no factor in
// common.
func coprime(a, b int) bool {
	for b != 0 {
		a, b = b, a%b
	}
	return a == 1
}

func isOddPrime(p int) bool {
	if p < 3 {
		return false
	}
	for d := 2; d*d <= p; d++ {
		if p%d == 0 {
			return false
		}
	}
	return true
}

// turns returns the sign of the order that multiplication by a brings about
// modulo n.
func turns(a, n int) int {
	sign := 1
	for i := range n {
		for j := range i {
			if a*j%n > a*i%n {
				sign = -sign
			}
		}
	}
	return sign
}

// points returns how many points lie below the diagonal of a rectangle that is p
// wide and q high, left of its middle. None of them lies on the diagonal, nor
// above the middle.
func points(p, q int) int {
	count := 0
	for x := 1; 2*x < p; x++ {
		count += q * x / p
	}
	return count
}

// root returns the least square root of a modulo p; false if there is none.
func root(a, p int) (int, bool) {
	for x := range p {
		if (x*x-a)%p == 0 {
			return x, true
		}
	}
	return 0, false
}

// least returns the least number from 2 on that is no square modulo p. Half of
// those below p are none.
func least(p int) int {
	x := 2
	for symbol(x, p) == 1 {
		x++
	}
	return x
}

package sums

// polynomial is a slice of coefficients, that of x^0 first.
type polynomial []int

func (p polynomial) degree() int { return len(p) - 1 }

// times returns the product of p and q.
func (p polynomial) times(q polynomial) polynomial {
	product := make(polynomial, len(p)+len(q)-1)
	for i, x := range p {
		for j, y := range q {
			product[i+j] += x * y
		}
	}
	return product
}

// divided returns the quotient by d and the rest, which has as many coefficients
// as d has the degree. Both are whole, because the last coefficient of d is 1.
func (p polynomial) divided(d polynomial) (quotient, rest polynomial) {
	rest = make(polynomial, len(p))
	copy(rest, p)
	quotient = make(polynomial, len(p)-d.degree())
	for i := len(quotient) - 1; i >= 0; i-- {
		quotient[i] = rest[i+d.degree()]
		for j, c := range d {
			rest[i+j] -= quotient[i] * c
		}
	}
	return quotient, rest[:d.degree()]
}

// cyclotomic returns C(n): what is left of x^n - 1 without C(d) for each smaller
// divisor d of n.
func cyclotomic(n int) polynomial {
	left := make(polynomial, n+1)
	left[0], left[n] = -1, 1
	for d := 1; d < n; d++ {
		if n%d == 0 {
			left, _ = left.divided(cyclotomic(d))
		}
	}
	return left
}

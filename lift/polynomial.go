package lift

import "slices"

// polynomial has the coefficients of x^0, x^1, ..
type polynomial []int

func (f polynomial) valid() bool {
	if len(f) < minCoefficients || len(f) > maxCoefficients || f[len(f)-1] == 0 {
		return false
	}
	return !slices.ContainsFunc(f, func(c int) bool { return c < -maxCoefficient || c > maxCoefficient })
}

// at returns what f is at x, modulo m.
func (f polynomial) at(x, m int) int {
	value := 0
	for i := len(f) - 1; i >= 0; i-- {
		value = residue(value*x+f[i], m)
	}
	return value
}

func (f polynomial) derivative() polynomial {
	d := make(polynomial, len(f)-1)
	for i := range d {
		d[i] = (i + 1) * f[i+1]
	}
	return d
}

func (f polynomial) times(g polynomial) polynomial {
	product := make(polynomial, len(f)+len(g)-1)
	for i, c := range f {
		for j, d := range g {
			product[i+j] += c * d
		}
	}
	return product
}

// roots returns all residues modulo m at which f is divisible by m, rising.
func (f polynomial) roots(m int) []int {
	var list []int
	for x := range m {
		if f.at(x, m) == 0 {
			list = append(list, x)
		}
	}
	return list
}

// lift returns the root modulo m, a power of p, that is r modulo p. There is one
// alone, since f is divisible by p at r, and its derivative is not.
func (f polynomial) lift(p, m, r int) int {
	turn := inverse(f.derivative().at(r, p), p)
	x := r
	for power := p; power < m; power *= p {
		// What is left at x, which power divides, is divisible by p once more after
		// this, as the derivative at x is that at r modulo p.
		x = residue(x-f.at(x, m)*turn, m)
	}
	return x
}

// unmoved returns x^p - x. p divides it everywhere, and its derivative, which is
// -1 modulo p, nowhere.
func unmoved(p int) polynomial {
	f := make(polynomial, p+1)
	f[1], f[p] = -1, 1
	return f
}

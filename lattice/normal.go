package lattice

import "slices"

// normal returns the normal form. It starts from the multiples of the determinant,
// which are all in the lattice, and takes in the rows. As the multiples of the
// determinant are never lost, the numbers right of a diagonal may be taken modulo
// it, which keeps them small.
func (b basis) normal() basis {
	m := determinant(b)
	m = max(m, -m)
	form := make(basis, len(b))
	for i := range form {
		form[i] = origin(len(b))
		form[i][i] = m
	}
	for _, row := range b {
		form.take(slices.Clone(row), m)
	}
	form.lower(m)
	return form
}

// take adds v to the lattice of b, which has 0 below the diagonal, by Euclid's
// steps with one row after the other. It writes over v.
func (b basis) take(v []int, m int) {
	for j := range v {
		v[j] = modulo(v[j], m)
	}
	for j := range v {
		for v[j] > 0 {
			subtract(b[j], b[j][j]/v[j], v, j, m)
			b[j], v = v, b[j]
		}
	}
}

// lower makes the numbers above each diagonal number less than that, from left to
// right, as row j changes nothing left of its diagonal number.
func (b basis) lower(m int) {
	for i, row := range b {
		for j := i + 1; j < len(b); j++ {
			subtract(row, row[j]/b[j][j], b[j], j, m)
		}
	}
}

// subtract takes so many times w away from v, modulo m, from index j on.
func subtract(v []int, times int, w []int, j, m int) {
	for i := j; i < len(v); i++ {
		v[i] = modulo(v[i]-times*w[i], m)
	}
}

func modulo(x, m int) int { return (x%m + m) % m }

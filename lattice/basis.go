package lattice

import (
	"math/bits"
	"slices"

	"gherkin/api"
)

// basis is a list of independent rows: as many as a row has numbers, or the first
// ones of these.
type basis [][]int

// valid reports whether b is a basis as the chapter has it.
func (b basis) valid() bool {
	if len(b) < 1 || len(b) > api.MaxRows {
		return false
	}
	for _, row := range b {
		if !within(row, len(b), maxNumber) {
			return false
		}
	}
	return determinant(b) != 0
}

// determinant returns that of a square matrix.
func determinant(m [][]int) int { return minor(m, 0) }

// minor returns the determinant of a square matrix without the columns whose bits
// are set in taken, and without as many rows from the top.
func minor(m [][]int, taken uint) int {
	i := bits.OnesCount(taken)
	if i == len(m) {
		return 1
	}
	sum, sign := 0, 1
	for j, x := range m[i] {
		if taken>>j&1 == 1 {
			continue
		}
		if x != 0 {
			sum += sign * x * minor(m, taken|1<<j)
		}
		sign = -sign
	}
	return sum
}

// with returns the rows with v in the place of row i.
func (b basis) with(i int, v []int) basis {
	rows := slices.Clone(b)
	rows[i] = v
	return rows
}

// multiples returns the multiples of the rows whose sum is v; false if they are
// not whole. They are found by Cramer's rule.
func (b basis) multiples(v []int) ([]int, bool) {
	det := determinant(b)
	list := make([]int, len(b))
	for i := range b {
		n := determinant(b.with(i, v))
		if n%det != 0 {
			return nil, false
		}
		list[i] = n / det
	}
	return list, true
}

// dual returns the rows whose inner product with any v is the determinant of b
// with v in the place of the row with the same index.
func (b basis) dual() basis {
	rows := make(basis, len(b))
	for i := range b {
		rows[i] = origin(len(b))
		for j := range rows[i] {
			unit := origin(len(b))
			unit[j] = 1
			rows[i][j] = determinant(b.with(i, unit))
		}
	}
	return rows
}

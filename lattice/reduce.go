package lattice

import (
	"cmp"
	"slices"

	"gherkin/api"
)

// gram returns the determinant of the inner products of the rows of a with those
// of b.
func gram(a, b basis) int {
	products := make([][]int, len(a))
	for i, v := range a {
		products[i] = make([]int, len(b))
		for j, w := range b {
			products[i][j] = inner(v, w)
		}
	}
	return determinant(products)
}

// volume returns the square of the volume that the rows span: the product of
// their heights.
func (b basis) volume() int { return gram(b, b) }

// and returns the rows, and v after them.
func (b basis) and(v []int) basis { return append(slices.Clip(b), v) }

// heights returns the norm of each row made orthogonal to those before it.
func (b basis) heights() []api.Frac {
	list := make([]api.Frac, len(b))
	for i := range b {
		list[i] = fraction(b[:i+1].volume(), b[:i].volume())
	}
	return list
}

// fraction returns num / den in lowest terms; both are at least 1.
func fraction(num, den int) api.Frac {
	a, b := num, den
	for b > 0 {
		a, b = b, a%b
	}
	return api.Frac{Num: num / a, Den: den / a}
}

// compareHeights compares two heights of one basis. The products of their
// numbers are at most the 6th power of the norm of a row, 1600, which is too great
// for an int, but not for a uint64.
func compareHeights(a, b api.Frac) int {
	return cmp.Compare(uint64(a.Num)*uint64(b.Den), uint64(b.Num)*uint64(a.Den))
}

// share returns, as num / den, the inner product of v with row j made orthogonal
// to those before it, divided by the norm of that.
func (b basis) share(v []int, j int) (num, den int) {
	return gram(b[:j].and(v), b[:j+1]), b[:j+1].volume()
}

// isReduced reports whether b is reduced.
func (b basis) isReduced() bool {
	for i, v := range b {
		for j := range i {
			num, den := b.share(v, j)
			if 2*num > den || 2*num < -den {
				return false
			}
		}
		if i > 0 && !b.inOrder(i) {
			return false
		}
	}
	return true
}

// inOrder reports whether the height of row i, and the square of its share of row
// i - 1 times the height of that, are together at least 3/4 of the height of that.
// Together they are the height that row i would have in the place of row i - 1, so
// that it suffices to compare volumes.
func (b basis) inOrder(i int) bool {
	return 4*b[:i-1].and(b[i]).volume() >= 3*b[:i].volume()
}

// reduced returns a reduced basis of the same lattice, by the steps of Lenstra,
// Lenstra and Lovasz. They come to an end: two rows that change places lower the
// volume of the first i rows, which is whole, by a fourth of it or more, and
// nothing raises one.
func (b basis) reduced() basis {
	rows := b.copied()
	for i := 1; i < len(rows); {
		rows[i] = rows[:i].rest(rows[i])
		if rows.inOrder(i) {
			i++
			continue
		}
		rows[i-1], rows[i] = rows[i], rows[i-1]
		i = max(i-1, 1)
	}
	return rows
}

// copied returns the same rows in new memory.
func (b basis) copied() basis {
	rows := make(basis, len(b))
	for i, row := range b {
		rows[i] = slices.Clone(row)
	}
	return rows
}

// rest returns v less multiples of the rows, the last one first, of none of which
// it then has a share above 1/2 or below -1/2.
func (b basis) rest(v []int) []int {
	for j := len(b) - 1; j >= 0; j-- {
		v = b.less(v, j)
	}
	return v
}

// less returns v less the multiple of row j that is nearest to its share.
func (b basis) less(v []int, j int) []int {
	num, den := b.share(v, j)
	return plus(v, -nearestWhole(num, den), b[j])
}

// nearestWhole returns a whole number that is nearest to num / den; den is at
// least 1.
func nearestWhole(num, den int) int {
	n := 2*num + den
	whole := n / (2 * den)
	if n%(2*den) < 0 {
		whole--
	}
	return whole
}

package lattice

import "slices"

// each calls visit, in no certain order, for all vectors of the lattice whose
// difference to t has a norm of at most most, with the vector and that norm. It
// chooses the multiples of the rows from the last row to the first. They are few
// if b is reduced.
func (b basis) each(t []int, most int, visit func(v []int, distance int)) {
	var choose func(i int, difference []int)
	choose = func(i int, difference []int) {
		if i < 0 {
			visit(plus(difference, 1, t), norm(difference))
			return
		}
		// Rows before row i do not change the part that is orthogonal to them. Its
		// norm is the quotient of two volumes.
		before := b[:i]
		limit := most * before.volume()
		near := func(v []int) bool { return before.and(v).volume() <= limit }
		start := b.less(difference, i)
		for v := start; near(v); v = plus(v, 1, b[i]) {
			choose(i-1, v)
		}
		for v := plus(start, -1, b[i]); near(v); v = plus(v, -1, b[i]) {
			choose(i-1, v)
		}
	}
	choose(len(b)-1, plus(origin(len(b)), -1, t))
}

// nearest returns, of the vectors whose difference to t has a norm from least to
// most, the first one with the least norm.
func (b basis) nearest(t []int, least, most int) []int {
	var found []int
	best := most
	b.each(t, most, func(v []int, distance int) {
		if distance < least || distance > best {
			return
		}
		if found == nil || distance < best || slices.Compare(v, found) < 0 {
			found, best = v, distance
		}
	})
	return found
}

// theta returns how many vectors have each norm, from 0 to most.
func (b basis) theta(most int) []int {
	counts := make([]int, most+1)
	b.each(origin(len(b)), most, func(_ []int, distance int) { counts[distance]++ })
	return counts
}

// minima returns all of them. Of the rows and a vector that is a sum of multiples
// of some of them, the longest one is left out again and again: what is kept stays
// independent, and has the least norms in the end.
func (b basis) minima() []int {
	kept, dual := slices.Clone(b), b.dual()
	b.each(origin(len(b)), slices.Max(b.norms()), func(v []int, distance int) {
		out, longest := 0, distance
		for i, row := range kept {
			if inner(dual[i], v) != 0 && norm(row) > longest {
				out, longest = i, norm(row)
			}
		}
		if longest > distance {
			kept[out] = v
			dual = kept.dual()
		}
	})
	list := kept.norms()
	slices.Sort(list)
	return list
}

func (b basis) norms() []int {
	list := make([]int, len(b))
	for i, row := range b {
		list[i] = norm(row)
	}
	return list
}

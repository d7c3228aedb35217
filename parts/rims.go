package parts

import "slices"

// trim is a partition, and the length of the rim hooks that are taken away.
type trim struct {
	list   partition
	length int
}

func (t trim) valid() bool {
	return t.length >= 1 && t.length <= maxLength && t.list.valid()
}

// without returns what is left of the list if the rim hook that begins at the
// end of row i is taken away, and reports whether there is that one.
//
// Each part stands for a bead, at the part and the number of parts below it, so
// that no two beads are at one place. To take a rim hook away is to move a bead
// down by its length, to a free place: the parts of the beads that it passes
// become one less, and go up by a row.
func (t trim) without(i int) (partition, bool) {
	beads := slices.Clone(t.list)
	for row := range beads {
		beads[row] += len(beads) - 1 - row
	}
	to := beads[i] - t.length
	if to < 0 || slices.Contains(beads, to) {
		return nil, false
	}
	beads[i] = to
	falling(beads)
	left := partition{}
	for row, bead := range beads {
		if part := bead - (len(beads) - 1 - row); part > 0 {
			left = append(left, part)
		}
	}
	return left, true
}

// core returns what is left if rim hooks are taken away as long as there are
// any.
func (t trim) core() partition {
again:
	for i := range t.list {
		if left, ok := t.without(i); ok {
			t.list = left
			goto again
		}
	}
	return slices.Clone(t.list)
}

// each returns what is left after one rim hook is taken away, for all of them.
func (t trim) each() [][]int {
	var all [][]int
	// This order is rising: row i gets shorter, and those above it do not.
	for i := range t.list {
		if left, ok := t.without(i); ok {
			all = append(all, left)
		}
	}
	return all
}

package numeral

import (
	"cmp"
	"slices"
)

// heaps are the numbers of jars in both heaps, in the order of these.
type heaps [2]int

func (h heaps) valid() bool {
	return h[0] >= 0 && h[0] <= maxHeap && h[1] >= 0 && h[1] <= maxHeap
}

// coldPair returns the cold pair with the difference second heap less first
// heap, which may be below 0.
//
// The lesser heaps are, rising, the numbers whose numeral has an even last
// index. Each of these is 1 more than a number without the index 2, and so than
// a shift: the one for n is 1 more than the shift of n - 1.
func coldPair(difference int) heaps {
	n := max(difference, -difference)
	if n == 0 {
		return heaps{}
	}
	before, _ := shifted(n-1, 1)
	lesser := before + 1
	if difference < 0 {
		return heaps{lesser + n, lesser}
	}
	return heaps{lesser, lesser + n}
}

// partner returns the heap that is cold together with this one. Of such two the
// lesser one has an even last index, and the greater one is its shift.
func partner(heap int) int {
	if heap == 0 {
		return 0
	}
	by := 1
	if last(heap)%2 == 1 {
		by = -1
	}
	other, _ := shifted(heap, by)
	return other
}

func (h heaps) cold() bool { return h == coldPair(h[1]-h[0]) }

// best returns the cold pair to which the best move leads. From heaps that are
// not cold there is always one.
func (h heaps) best() heaps {
	reached := []heaps{
		coldPair(h[1] - h[0]), // from both, equally many
		{partner(h[1]), h[1]},
		{h[0], partner(h[0])},
	}
	// A move only takes.
	tooLarge := func(to heaps) bool { return to[0] > h[0] || to[1] > h[1] }
	return slices.MinFunc(slices.DeleteFunc(reached, tooLarge), byTaken)
}

// byTaken orders the pairs to which moves from the same heaps lead: first those
// that most is left in, of these first the one with the lesser first heap.
func byTaken(a, b heaps) int {
	return cmp.Or(cmp.Compare(b[0]+b[1], a[0]+a[1]), cmp.Compare(a[0], b[0]))
}

package parts

import (
	"cmp"
	"slices"

	"gherkin/api"
)

// partition is a slice of parts. The methods that check whether it is valid
// take any slice, all others take valid ones alone, and none of them changes
// it.
type partition []int

func (l partition) valid() bool {
	left := api.MaxParts
	for i, part := range l {
		// Each part is held against what is left, as a sum might wrap around.
		if part < 1 || part > left || i > 0 && part > l[i-1] {
			return false
		}
		left -= part
	}
	return true
}

// different reports whether it is valid and no two parts are equal.
func (l partition) different() bool {
	for i := 1; i < len(l); i++ {
		if l[i] == l[i-1] {
			return false
		}
	}
	return l.valid()
}

// odd reports whether it is valid and all parts are odd.
func (l partition) odd() bool {
	for _, part := range l {
		if part%2 == 0 {
			return false
		}
	}
	return l.valid()
}

// movable reports whether Franklin's move is defined.
func (l partition) movable() bool { return len(l) > 0 && l.different() }

// fillable reports whether it is valid and its fillings are counted.
func (l partition) fillable() bool { return l.valid() && l.sum() <= maxFilled }

func (l partition) sum() int {
	sum := 0
	for _, part := range l {
		sum += part
	}
	return sum
}

// falling brings the parts into the order of a partition.
func falling(l partition) {
	slices.SortFunc(l, func(a, b int) int { return cmp.Compare(b, a) })
}

func (l partition) conjugate() partition {
	if len(l) == 0 {
		return nil
	}
	columns := make(partition, l[0])
	for _, part := range l {
		for column := range part {
			columns[column]++
		}
	}
	return columns
}

func (l partition) square() int {
	k := 0
	for k < len(l) && l[k] > k {
		k++
	}
	return k
}

func (l partition) rank() int {
	if len(l) == 0 {
		return 0
	}
	return l[0] - len(l)
}

func (l partition) crank() int {
	if len(l) == 0 {
		return 0
	}
	ones, greater := 0, 0
	for _, part := range l {
		if part == 1 {
			ones++
		}
	}
	if ones == 0 {
		return l[0]
	}
	for _, part := range l {
		if part > ones {
			greater++
		}
	}
	return greater - ones
}

// front returns the number of parts at the front of which each is one less
// than the one before.
func (l partition) front() int {
	t := 1
	for t < len(l) && l[t] == l[t-1]-1 {
		t++
	}
	return t
}

// move returns the partition after Franklin's move, and nil if that fails.
func (l partition) move() partition {
	last, t := len(l)-1, l.front()
	s, all := l[last], t == len(l)
	if all && (s == t || s == t+1) {
		return nil
	}
	if s <= t {
		moved := slices.Clone(l[:last])
		for i := range s {
			moved[i]++
		}
		return moved
	}
	moved := append(slices.Clone(l), t)
	for i := range t {
		moved[i]--
	}
	return moved
}

// joined returns the partition that comes if, as long as two parts are equal,
// they become one.
func (l partition) joined() partition {
	list := slices.Clone(l)
again:
	for i := 1; i < len(list); i++ {
		if list[i] == list[i-1] {
			list[i-1] *= 2
			list = slices.Delete(list, i, i+1)
			falling(list)
			goto again
		}
	}
	return list
}

// halved returns the partition that comes if, as long as a part is even, it
// becomes two halves.
func (l partition) halved() partition {
	list := slices.Clone(l)
again:
	for i, part := range list {
		if part%2 == 0 {
			list[i] = part / 2
			list = append(list, part/2)
			falling(list)
			goto again
		}
	}
	return list
}

func (l partition) hooks() [][]int {
	columns := l.conjugate()
	rows := make([][]int, len(l))
	for i, part := range l {
		for j := range part {
			right, below := part-j-1, columns[j]-i-1
			rows[i] = append(rows[i], right+below+1)
		}
	}
	return rows
}

// fillings returns the factorial of the sum divided by the product of all
// hooks. No step is above the factorial of maxFilled.
func (l partition) fillings() int {
	factorial, product := 1, 1
	for n := range l.sum() {
		factorial *= n + 1
	}
	for _, row := range l.hooks() {
		for _, hook := range row {
			product *= hook
		}
	}
	return factorial / product
}

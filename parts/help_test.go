package parts_test

import (
	"math/big"
	"slices"
	"sync"
	"testing"

	"gherkin/api"
	"gherkin/parts"
)

const most = 30 // the sum of the greatest partitions

// tables has at n all partitions of n, rising, found by their multiplicities.
var tables = sync.OnceValue(func() [][][]int {
	lists := make([][][]int, most+1)
	for n := range lists {
		grow(n, 1, nil, &lists[n])
		slices.SortFunc(lists[n], slices.Compare)
	}
	return lists
})

// grow adds to list all partitions which have behind l parts from least on with
// the sum left.
func grow(left, least int, l []int, list *[][]int) {
	if left == 0 {
		turned := slices.Clone(l)
		slices.Reverse(turned)
		*list = append(*list, turned)
	}
	for part := least; part <= left; part++ {
		grow(left-part, part, append(l, part), list)
	}
}

// upTo returns all partitions of 0 to n.
func upTo(n int) [][]int { return slices.Concat(tables()[:n+1]...) }

// having returns those of list that all conditions hold for.
func having(list [][]int, conditions ...func([]int) bool) [][]int {
	var all [][]int
	for _, l := range list {
		fails := func(holds func([]int) bool) bool { return !holds(l) }
		if !slices.ContainsFunc(conditions, fails) {
			all = append(all, l)
		}
	}
	return all
}

// apart returns the condition that any two parts differ by at least gap.
func apart(gap int) func([]int) bool {
	return func(l []int) bool {
		for i := 1; i < len(l); i++ {
			if l[i-1]-l[i] < gap {
				return false
			}
		}
		return true
	}
}

// each returns the condition that all parts have the property.
func each(holds func(part int) bool) func([]int) bool {
	return func(l []int) bool {
		return !slices.ContainsFunc(l, func(part int) bool { return !holds(part) })
	}
}

func isOdd(part int) bool { return part%2 != 0 }

func notEmpty(l []int) bool { return len(l) > 0 }

func sum(l []int) int {
	total := 0
	for _, part := range l {
		total += part
	}
	return total
}

// isPartition is the definition.
func isPartition(l []int) bool {
	for i, part := range l {
		if part < 1 || i > 0 && part > l[i-1] {
			return false
		}
	}
	return sum(l) <= most
}

// has reports whether there is a cell in that row and column.
func has(l []int, row, column int) bool {
	return row >= 0 && row < len(l) && column >= 0 && column < l[row]
}

// turned returns the conjugate: it counts the cells of each column.
func turned(l []int) []int {
	var columns []int
	for column := 0; has(l, 0, column); column++ {
		row := 0
		for has(l, row, column) {
			row++
		}
		columns = append(columns, row)
	}
	return columns
}

// hooks returns the hooks of l: it walks right and down from each cell.
func hooks(l []int) [][]int {
	rows := make([][]int, len(l))
	for i := range l {
		for j := range l[i] {
			hook := 1
			for has(l, i, j+hook) {
				hook++
			}
			for row := i + 1; has(l, row, j); row++ {
				hook++
			}
			rows[i] = append(rows[i], hook)
		}
	}
	return rows
}

// isRimHook reports whether the cells of l outside of rest are connected and
// contain no square of 2 by 2, and rest has no cell outside of l.
func isRimHook(l, rest []int) bool {
	if len(rest) > len(l) {
		return false
	}
	type cell struct{ row, column int }
	away := map[cell]bool{}
	var start cell
	for row := range l {
		from := 0
		if row < len(rest) {
			from = rest[row]
		}
		if from > l[row] {
			return false
		}
		for column := from; column < l[row]; column++ {
			start = cell{row, column}
			away[start] = true
		}
	}
	for c := range away {
		if away[cell{c.row + 1, c.column}] && away[cell{c.row, c.column + 1}] && away[cell{c.row + 1, c.column + 1}] {
			return false
		}
	}
	reached := map[cell]bool{start: true}
	for next := []cell{start}; len(next) > 0; next = next[1:] {
		c := next[0]
		for _, d := range []cell{{c.row + 1, c.column}, {c.row - 1, c.column}, {c.row, c.column + 1}, {c.row, c.column - 1}} {
			if away[d] && !reached[d] {
				reached[d] = true
				next = append(next, d)
			}
		}
	}
	return len(reached) == len(away)
}

// hookedRims returns what is left of l without one rim hook of length p: each
// belongs to a cell with the hook p, and has its ends in that cell's row and
// column.
func hookedRims(l []int, p int) [][]int {
	var all [][]int
	for i, row := range hooks(l) {
		for j, hook := range row {
			if hook != p {
				continue
			}
			rest := slices.Clone(l)
			for row := i; row < len(l); row++ {
				if has(l, row+1, j) {
					rest[row] = l[row+1] - 1
				} else if has(l, row, j) {
					rest[row] = j
				}
			}
			for len(rest) > 0 && rest[len(rest)-1] == 0 {
				rest = rest[:len(rest)-1]
			}
			all = append(all, rest)
		}
	}
	slices.SortFunc(all, slices.Compare)
	return all
}

// abacusCore returns the core of l for p: the first column's hooks are beads,
// which go down to the lowest places that leave the same rest modulo p.
func abacusCore(l []int, p int) []int {
	beads := make([]int, p)
	for i, part := range l {
		beads[(part+len(l)-1-i)%p]++
	}
	var places []int
	for rest, count := range beads {
		for i := range count {
			places = append(places, rest+i*p)
		}
	}
	slices.Sort(places)
	var core []int
	for i, place := range places {
		if place > i {
			core = append(core, place-i)
		}
	}
	slices.Reverse(core)
	return core
}

// coins returns the number of partitions of n into the parts, each any number
// of times.
func coins(n int, parts []int) *big.Int {
	counts := make([]*big.Int, n+1)
	for i := range counts {
		counts[i] = big.NewInt(0)
	}
	counts[0] = big.NewInt(1)
	for _, part := range parts {
		for i := part; i <= n; i++ {
			counts[i] = new(big.Int).Add(counts[i], counts[i-part])
		}
	}
	return counts[n]
}

// numbers returns those from 1 to n that leave one of the rests modulo m.
func numbers(n, m int, rests ...int) []int {
	var list []int
	for i := 1; i <= n; i++ {
		if slices.Contains(rests, i%m) {
			list = append(list, i)
		}
	}
	return list
}

// same reports whether two lists have the same slices.
func same(a, b [][]int) bool { return slices.EqualFunc(a, b, slices.Equal[[]int]) }

// list is a function that returns a slice for a partition.
type list func([]int) ([]int, api.Errno)

// number is a function that returns a number for a partition.
type number func([]int) (int, api.Errno)

// lists are all functions from a partition to one, with what each of them
// takes.
func lists() map[string]struct {
	f     list
	takes func([]int) bool
} {
	type entry = struct {
		f     list
		takes func([]int) bool
	}
	core := func(p int) list {
		return func(l []int) ([]int, api.Errno) { return parts.Core(l, p) }
	}
	return map[string]entry{
		"Conjugate":  {parts.Conjugate, isPartition},
		"Franklin":   {parts.Franklin, func(l []int) bool { return len(l) > 0 && apart(1)(l) }},
		"Glaisher":   {parts.Glaisher, each(isOdd)},
		"Odds":       {parts.Odds, apart(1)},
		"Core for 1": {core(1), isPartition},
		"Core for 2": {core(2), isPartition},
		"Core for 5": {core(5), isPartition},
		"Core for 9": {core(9), isPartition},
	}
}

// numberFunctions are all functions from a partition to a number.
func numberFunctions() map[string]number {
	return map[string]number{"Square": parts.Square, "Rank": parts.Rank, "Crank": parts.Crank, "Fillings": parts.Fillings}
}

func mustList(t *testing.T, f list, l []int) []int {
	t.Helper()
	result, e := f(l)
	if e != api.OK {
		t.Fatalf("%v: error %d", l, e)
	}
	return result
}

func mustNumber(t *testing.T, f number, l []int) int {
	t.Helper()
	result, e := f(l)
	if e != api.OK {
		t.Fatalf("%v: error %d", l, e)
	}
	return result
}

func mustCount(t *testing.T, n int) int {
	t.Helper()
	count, e := parts.Count(n)
	if e != api.OK {
		t.Fatalf("Count(%d): error %d", n, e)
	}
	return count
}

func mustKinds(t *testing.T, n, kind int) int {
	t.Helper()
	count, e := parts.Kinds(n, kind)
	if e != api.OK {
		t.Fatalf("Kinds(%d, %d): error %d", n, kind, e)
	}
	return count
}

func mustHooks(t *testing.T, l []int) [][]int {
	t.Helper()
	rows, e := parts.Hooks(l)
	if e != api.OK {
		t.Fatalf("Hooks(%v): error %d", l, e)
	}
	return rows
}

func mustCore(t *testing.T, l []int, p int) []int {
	t.Helper()
	core, e := parts.Core(l, p)
	if e != api.OK {
		t.Fatalf("Core(%v, %d): error %d", l, p, e)
	}
	return core
}

func mustRims(t *testing.T, l []int, p int) [][]int {
	t.Helper()
	all, e := parts.Rims(l, p)
	if e != api.OK {
		t.Fatalf("Rims(%v, %d): error %d", l, p, e)
	}
	return all
}

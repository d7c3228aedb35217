package works

import (
	"slices"
	"strconv"
	"strings"

	"gherkin/api"
)

// A state is what the works have. The lists are in the order in which things came;
// the grid has two rows, or there is none.
type state struct {
	vats, growers, packings []entry
	grid                    [][]int
	crates                  [][2]int
}

// after returns the state after a change, and the reply. The state itself stays as it
// is, since the change does not count before its page is written.
func (s *state) after(change string) (*state, string, api.Errno) {
	next := s.clone()
	reply, e := follow(next.changes(), change)
	if e != api.OK {
		return nil, "", e
	}
	return next, reply, api.OK
}

// clone returns a copy whose lists can be changed. (What is in a list never changes.)
func (s *state) clone() *state {
	return &state{
		vats:     slices.Clone(s.vats),
		growers:  slices.Clone(s.growers),
		packings: slices.Clone(s.packings),
		grid:     s.grid,
		crates:   slices.Clone(s.crates),
	}
}

// text returns the state as State shows it.
func (s *state) text() string {
	var lines []string
	for _, question := range []string{"idle", "rest", "crates"} {
		// These have no error in any state.
		reply, _ := follow(s.questions(), question)
		lines = append(lines, reply)
	}
	for _, v := range byName(s.vats) {
		lines = append(lines, sentence([]string{"vat", v.name}, texts(v.numbers)))
	}
	for _, g := range byName(s.growers) {
		lines = append(lines, sentence([]string{"grower", g.name, quotient(g.numbers[0], g.numbers[1])}))
	}
	for _, p := range byName(s.packings) {
		lines = append(lines, sentence([]string{"pack", p.name}, texts(p.numbers)))
	}
	if s.grid == nil {
		lines = append(lines, "grid -")
	} else {
		lines = append(lines, sentence([]string{"grid"}, texts(s.grid[0]), texts(s.grid[1])))
	}
	return strings.Join(lines, "\n") + "\n"
}

// find returns the index of the entry with that name, or -1.
func find(list []entry, name string) int {
	return slices.IndexFunc(list, func(x entry) bool { return x.name == name })
}

// byName returns the list sorted.
func byName(list []entry) []entry {
	return slices.SortedFunc(slices.Values(list), func(x, y entry) int { return strings.Compare(x.name, y.name) })
}

// texts returns the numbers as words.
func texts(numbers []int) []string {
	words := make([]string, len(numbers))
	for i, n := range numbers {
		words[i] = strconv.Itoa(n)
	}
	return words
}

func quotient(a, b int) string { return strconv.Itoa(a) + "/" + strconv.Itoa(b) }

package works

import (
	"slices"

	"gherkin/api"
	"gherkin/covers"
	"gherkin/lattice"
	"gherkin/parts"
	"gherkin/shares"
)

// What the works have room for.
const (
	mostVats     = 10
	mostGrowers  = 8
	mostPackings = 8
	mostCrates   = 12
)

// changes returns the rules of the changes, which change s if they have no error.
func (s *state) changes() []rule {
	return []rule{
		{word: "vat", form: "vnn", answer: s.addVat},
		{word: "grower", form: "vnn", answer: s.addGrower},
		{word: "pack", form: "vn", more: 9, answer: s.addPacking},
		{word: "grid", form: "zzzz", answer: s.setGrid},
		{word: "crate", form: "zz", answer: s.addCrate},
		{word: "drop", form: "v", answer: s.dropVat},
	}
}

func (s *state) addVat(v entry) ([]string, api.Errno) {
	if e := room(s.vats, v.name, mostVats); e != api.OK {
		return nil, e
	}
	vats := append(s.vats, v)
	if _, e := covers.Share(system(vats)); e != api.OK {
		return nil, api.ErrArg
	}
	s.vats = vats
	return nil, api.OK
}

func (s *state) addGrower(g entry) ([]string, api.Errno) {
	if e := room(s.growers, g.name, mostGrowers); e != api.OK {
		return nil, e
	}
	if _, e := shares.Engel(g.numbers[0], g.numbers[1]); e != api.OK {
		return nil, api.ErrArg
	}
	growers := append(s.growers, g)
	if left(growers).Num < 0 {
		return nil, api.ErrArg
	}
	s.growers = growers
	return nil, api.OK
}

func (s *state) addPacking(p entry) ([]string, api.Errno) {
	if e := room(s.packings, p.name, mostPackings); e != api.OK {
		return nil, e
	}
	if _, e := parts.Conjugate(p.numbers); e != api.OK {
		return nil, api.ErrArg
	}
	s.packings = append(s.packings, p)
	return nil, api.OK
}

func (s *state) setGrid(g entry) ([]string, api.Errno) {
	rows := [][]int{g.numbers[:2:2], g.numbers[2:]}
	if _, e := lattice.Det(rows); e != api.OK {
		return nil, api.ErrArg
	}
	s.grid = rows
	s.crates = nil
	return nil, api.OK
}

func (s *state) addCrate(at entry) ([]string, api.Errno) {
	place, e := s.closest(at)
	if e != api.OK {
		return nil, e
	}
	if slices.Contains(s.crates, place) {
		return nil, api.ErrState
	}
	if len(s.crates) >= mostCrates {
		return nil, api.ErrFull
	}
	s.crates = append(s.crates, place)
	return texts(place[:]), api.OK
}

func (s *state) dropVat(v entry) ([]string, api.Errno) {
	i := find(s.vats, v.name)
	if i < 0 {
		return nil, api.ErrNone
	}
	s.vats = slices.Delete(s.vats, i, i+1)
	return nil, api.OK
}

// room looks whether one more entry can have the name, and a place in the list.
func room(list []entry, name string, most int) api.Errno {
	if find(list, name) >= 0 {
		return api.ErrState
	}
	if len(list) >= most {
		return api.ErrFull
	}
	return api.OK
}

// closest returns the vector of the grid at which a crate that is put there stands.
func (s *state) closest(at entry) ([2]int, api.Errno) {
	if s.grid == nil {
		return [2]int{}, api.ErrNone
	}
	v, e := lattice.Closest(s.grid, at.numbers)
	if e != api.OK {
		return [2]int{}, e
	}
	return [2]int(v), api.OK
}

// system returns the pairs of the vats.
func system(vats []entry) [][2]int {
	pairs := make([][2]int, len(vats))
	for i, v := range vats {
		pairs[i] = [2]int(v.numbers)
	}
	return pairs
}

// left returns 1 less all shares.
func left(growers []entry) api.Frac {
	rest := api.Frac{Num: 1, Den: 1}
	for _, g := range growers {
		a, b := g.numbers[0], g.numbers[1]
		rest = lowest(rest.Num*b-a*rest.Den, rest.Den*b)
	}
	return rest
}

// lowest returns a / b in lowest terms, for b above 0.
func lowest(a, b int) api.Frac {
	x, y := a, b
	for y != 0 {
		x, y = y, x%y
	}
	x = max(x, -x)
	return api.Frac{Num: a / x, Den: b / x}
}

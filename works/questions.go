package works

import (
	"slices"
	"strconv"

	"gherkin/api"
	"gherkin/covers"
	"gherkin/curve"
	"gherkin/lift"
	"gherkin/numeral"
	"gherkin/parts"
	"gherkin/pell"
	"gherkin/shares"
	"gherkin/sums"
)

// questions returns the rules of the questions.
func (s *state) questions() []rule {
	return []rule{
		{word: "stir", form: "n", answer: s.stir},
		{word: "idle", answer: s.idle},
		{word: "rest", answer: s.rest},
		{word: "sum", form: "v", answer: s.sum},
		{word: "box", form: "v", answer: s.box},
		{word: "core", form: "vn", answer: s.core},
		{word: "near", form: "zz", answer: s.near},
		{word: "crates", answer: s.listCrates},
		{word: "brine", form: "nn", answer: brine},
		{word: "label", form: "n", answer: label},
		{word: "root", form: "nn", answer: root},
		{word: "lift", form: "znn", answer: square},
		{word: "shape", form: "nnn", answer: shape},
	}
}

func (s *state) stir(q entry) ([]string, api.Errno) {
	var names []string
	for _, v := range s.vats {
		if (q.numbers[0]-v.numbers[0])%v.numbers[1] == 0 {
			names = append(names, v.name)
		}
	}
	slices.Sort(names)
	return names, api.OK
}

func (s *state) idle(entry) ([]string, api.Errno) {
	if len(s.vats) == 0 {
		return []string{"0"}, api.OK
	}
	day, e := covers.Left(system(s.vats))
	if e == api.ErrNone {
		return []string{"never"}, api.OK
	}
	return one(day, e)
}

func (s *state) rest(entry) ([]string, api.Errno) {
	f := left(s.growers)
	return []string{quotient(f.Num, f.Den)}, api.OK
}

func (s *state) sum(q entry) ([]string, api.Errno) {
	i := find(s.growers, q.name)
	if i < 0 {
		return nil, api.ErrNone
	}
	share := s.growers[i].numbers
	return all(shares.Engel(share[0], share[1]))
}

func (s *state) box(q entry) ([]string, api.Errno) {
	i := find(s.packings, q.name)
	if i < 0 {
		return nil, api.ErrNone
	}
	packing := s.packings[i].numbers
	// A packing is a partition: this has no error.
	conjugate, _ := parts.Conjugate(packing)
	fillings, e := parts.Fillings(packing)
	if e != api.OK {
		return append(texts(conjugate), "f-"), api.OK
	}
	return append(texts(conjugate), "f"+strconv.Itoa(fillings)), api.OK
}

func (s *state) core(q entry) ([]string, api.Errno) {
	i := find(s.packings, q.name)
	if i < 0 {
		return nil, api.ErrNone
	}
	return all(parts.Core(s.packings[i].numbers, q.numbers[0]))
}

func (s *state) near(q entry) ([]string, api.Errno) {
	v, e := s.closest(q)
	return all(v[:], e)
}

func (s *state) listCrates(entry) ([]string, api.Errno) {
	var places []string
	for _, c := range s.crates {
		places = append(places, strconv.Itoa(c[0])+","+strconv.Itoa(c[1]))
	}
	return places, api.OK
}

func brine(q entry) ([]string, api.Errno) {
	a, b, e := pell.Best(q.numbers[0], q.numbers[1])
	return []string{quotient(a, b)}, e
}

func label(q entry) ([]string, api.Errno) { return all(numeral.Encode(q.numbers[0])) }

func root(q entry) ([]string, api.Errno) { return one(sums.Root(q.numbers[0], q.numbers[1])) }

func square(q entry) ([]string, api.Errno) {
	return all(lift.Square(q.numbers[0], q.numbers[1], q.numbers[2]))
}

func shape(q entry) ([]string, api.Errno) {
	m, n, e := curve.Shape(curve.Curve{P: q.numbers[0], A: q.numbers[1], B: q.numbers[2]})
	return texts([]int{m, n}), e
}

// one returns the number as the only word of an answer. (An answer with an error is
// not looked at.)
func one(n int, e api.Errno) ([]string, api.Errno) { return texts([]int{n}), e }

// all returns the numbers as the words of an answer.
func all(numbers []int, e api.Errno) ([]string, api.Errno) { return texts(numbers), e }

package works_test

import (
	"math/big"
	"regexp"
	"slices"
	"strconv"
	"strings"

	"gherkin/api"
	"gherkin/curve"
	"gherkin/lift"
	"gherkin/numeral"
	"gherkin/parts"
	"gherkin/pell"
	"gherkin/shares"
	"gherkin/sums"
)

// A model is the state by the chapter's definitions: it looks at all days, at all
// places near a crate, and at shares as exact numbers.
type model struct {
	vats     []vat
	growers  map[string][2]int
	packings map[string][]int
	grid     []int
	crates   [][2]int
}

type vat struct {
	name string
	a, m int
}

func newModel() *model {
	return &model{growers: map[string][2]int{}, packings: map[string][]int{}}
}

const (
	name   = `[a-z]{1,8}`
	plain  = `(0|[1-9][0-9]{0,5})`
	signed = `(0|-?[1-9][0-9]{0,5})`
)

func form(words ...string) *regexp.Regexp {
	return regexp.MustCompile(`\A` + strings.Join(words, " ") + `\z`)
}

var changeForms = []*regexp.Regexp{
	form("vat", name, plain, plain), form("grower", name, plain, plain), form("pack", name, plain+`( `+plain+`){0,9}`),
	form("grid", signed, signed, signed, signed), form("crate", signed, signed), form("drop", name),
}

var questionForms = []*regexp.Regexp{
	form("stir", plain), form("idle"), form("rest"), form("sum", name), form("box", name), form("core", name, plain), form("near", signed, signed), form("crates"),
	form("brine", plain, plain), form("label", plain), form("root", plain, plain), form("lift", signed, plain, plain), form("shape", plain, plain, plain),
}

// hasForm reports whether a line has one of the forms.
func hasForm(line string, forms []*regexp.Regexp) bool {
	return len(line) <= 60 && slices.ContainsFunc(forms, func(r *regexp.Regexp) bool { return r.MatchString(line) })
}

// said returns the words of a line, and those of them that are numbers.
func said(line string) (words []string, numbers []int) {
	words = strings.Split(line, " ")
	for _, word := range words {
		if n, err := strconv.Atoi(word); err == nil {
			numbers = append(numbers, n)
		}
	}
	return words, numbers
}

// do makes a change.
func (m *model) do(line string) (string, api.Errno) {
	if !hasForm(line, changeForms) {
		return "", api.ErrForm
	}
	words, numbers := said(line)
	switch words[0] {
	case "vat":
		return m.vat(words[1], numbers[0], numbers[1])
	case "grower":
		return m.grower(words[1], numbers[0], numbers[1])
	case "pack":
		return m.pack(words[1], numbers)
	case "grid":
		return m.newGrid(numbers)
	case "crate":
		return m.crate(numbers[0], numbers[1])
	}
	return m.drop(words[1])
}

func (m *model) vat(name string, a, modulus int) (string, api.Errno) {
	for _, v := range m.vats {
		if v.name == name {
			return "", api.ErrState
		}
	}
	if len(m.vats) == 10 {
		return "", api.ErrFull
	}
	if modulus < 1 || modulus > 60 || a >= modulus || whole(append(slices.Clone(m.vats), vat{name, a, modulus})) > 10080 {
		return "", api.ErrArg
	}
	m.vats = append(m.vats, vat{name, a, modulus})
	return "vat", api.OK
}

// whole returns the first number from 1 on that is a multiple of all moduli, or one
// above 10080.
func whole(vats []vat) int {
	n := 1
	for n <= 10080 && slices.ContainsFunc(vats, func(v vat) bool { return n%v.m > 0 }) {
		n++
	}
	return n
}

func (m *model) grower(name string, a, b int) (string, api.Errno) {
	if _, there := m.growers[name]; there {
		return "", api.ErrState
	}
	if len(m.growers) == 8 {
		return "", api.ErrFull
	}
	if b < 2 || b > 60 || a < 1 || a >= b || m.rest().Cmp(big.NewRat(int64(a), int64(b))) < 0 {
		return "", api.ErrArg
	}
	m.growers[name] = [2]int{a, b}
	return "grower", api.OK
}

func (m *model) rest() *big.Rat {
	rest := big.NewRat(1, 1)
	for _, g := range m.growers {
		rest.Sub(rest, big.NewRat(int64(g[0]), int64(g[1])))
	}
	return rest
}

func (m *model) pack(name string, list []int) (string, api.Errno) {
	if _, there := m.packings[name]; there {
		return "", api.ErrState
	}
	if len(m.packings) == 8 {
		return "", api.ErrFull
	}
	sum := 0
	for i, part := range list {
		if part < 1 || i > 0 && part > list[i-1] {
			return "", api.ErrArg
		}
		sum += part
	}
	if sum > 30 {
		return "", api.ErrArg
	}
	m.packings[name] = list
	return "pack", api.OK
}

func (m *model) newGrid(g []int) (string, api.Errno) {
	if slices.Min(g) < -20 || slices.Max(g) > 20 || g[0]*g[3] == g[1]*g[2] {
		return "", api.ErrArg
	}
	m.grid = g
	m.crates = nil
	return "grid", api.OK
}

func (m *model) crate(x, y int) (string, api.Errno) {
	place, e := m.closest(x, y)
	if e != api.OK {
		return "", e
	}
	if slices.Contains(m.crates, place) {
		return "", api.ErrState
	}
	if len(m.crates) == 12 {
		return "", api.ErrFull
	}
	m.crates = append(m.crates, place)
	return "crate " + strconv.Itoa(place[0]) + " " + strconv.Itoa(place[1]), api.OK
}

// closest looks at all places as far as half of both rows together reaches.
func (m *model) closest(x, y int) ([2]int, api.Errno) {
	if m.grid == nil {
		return [2]int{}, api.ErrNone
	}
	if min(x, y) < -100 || max(x, y) > 100 {
		return [2]int{}, api.ErrArg
	}
	best, least := [2]int{}, 1<<30
	for u := x - 29; u <= x+29; u++ {
		for v := y - 29; v <= y+29; v++ {
			if far := (u-x)*(u-x) + (v-y)*(v-y); far < least && m.onGrid(u, v) {
				best, least = [2]int{u, v}, far
			}
		}
	}
	return best, api.OK
}

// onGrid reports whether u v is a sum of multiples of both rows, by Cramer's rule.
func (m *model) onGrid(u, v int) bool {
	g := m.grid
	det := g[0]*g[3] - g[1]*g[2]
	return (u*g[3]-v*g[2])%det == 0 && (v*g[0]-u*g[1])%det == 0
}

func (m *model) drop(name string) (string, api.Errno) {
	for i, v := range m.vats {
		if v.name == name {
			m.vats = slices.Delete(m.vats, i, i+1)
			return "drop", api.OK
		}
	}
	return "", api.ErrNone
}

// ask replies to a question.
func (m *model) ask(line string) (string, api.Errno) {
	if !hasForm(line, questionForms) {
		return "", api.ErrForm
	}
	words, numbers := said(line)
	var answer []string
	e := api.OK
	switch words[0] {
	case "stir":
		answer = m.stirred(numbers[0])
	case "idle":
		answer = []string{m.idle()}
	case "rest":
		answer = []string{m.rest().String()}
	case "near":
		var place [2]int
		place, e = m.closest(numbers[0], numbers[1])
		answer = spell(place[:])
	case "crates":
		for _, c := range m.crates {
			answer = append(answer, strconv.Itoa(c[0])+","+strconv.Itoa(c[1]))
		}
	case "sum", "box", "core":
		answer, e = m.askFor(words[0], words[1], numbers)
	default:
		answer, e = askOthers(words[0], numbers)
	}
	if e != api.OK {
		return "", e
	}
	return strings.Join(append(words[:1], answer...), " "), api.OK
}

func (m *model) stirred(day int) []string {
	var names []string
	for _, v := range m.vats {
		if day%v.m == v.a {
			names = append(names, v.name)
		}
	}
	slices.Sort(names)
	return names
}

func (m *model) idle() string {
	for day := range whole(m.vats) {
		if len(m.stirred(day)) == 0 {
			return strconv.Itoa(day)
		}
	}
	return "never"
}

// askFor replies to a question for a grower or a packing.
func (m *model) askFor(word, name string, numbers []int) ([]string, api.Errno) {
	if word == "sum" {
		g, there := m.growers[name]
		if !there {
			return nil, api.ErrNone
		}
		l, e := shares.Engel(g[0], g[1])
		return spell(l), e
	}
	p, there := m.packings[name]
	if !there {
		return nil, api.ErrNone
	}
	if word == "core" {
		l, e := parts.Core(p, numbers[0])
		return spell(l), e
	}
	l, e := parts.Conjugate(p)
	fillings := "f-"
	if n, e := parts.Fillings(p); e == api.OK {
		fillings = "f" + strconv.Itoa(n)
	}
	return append(spell(l), fillings), e
}

// askOthers replies to a question that the state has no part in.
func askOthers(word string, n []int) ([]string, api.Errno) {
	switch word {
	case "brine":
		p, q, e := pell.Best(n[0], n[1])
		return []string{strconv.Itoa(p) + "/" + strconv.Itoa(q)}, e
	case "label":
		l, e := numeral.Encode(n[0])
		return spell(l), e
	case "root":
		x, e := sums.Root(n[0], n[1])
		return spell([]int{x}), e
	case "lift":
		l, e := lift.Square(n[0], n[1], n[2])
		return spell(l), e
	}
	a, b, e := curve.Shape(curve.Curve{P: n[0], A: n[1], B: n[2]})
	return spell([]int{a, b}), e
}

func spell(numbers []int) []string {
	var words []string
	for _, n := range numbers {
		words = append(words, strconv.Itoa(n))
	}
	return words
}

// state returns what State should be.
func (m *model) state() string {
	crates, _ := m.ask("crates")
	rest := m.rest()
	text := "idle " + m.idle() + "\nrest " + rest.Num().String() + "/" + rest.Denom().String() + "\n" + crates + "\n"
	var vats, growers, packings []string
	for _, v := range m.vats {
		vats = append(vats, "vat "+v.name+" "+strconv.Itoa(v.a)+" "+strconv.Itoa(v.m)+"\n")
	}
	for name, g := range m.growers {
		growers = append(growers, "grower "+name+" "+strconv.Itoa(g[0])+"/"+strconv.Itoa(g[1])+"\n")
	}
	for name, p := range m.packings {
		packings = append(packings, "pack "+name+" "+strings.Join(spell(p), " ")+"\n")
	}
	// Lines are ordered as their names: a blank precedes all letters.
	for _, lines := range [][]string{vats, growers, packings} {
		slices.Sort(lines)
		text += strings.Join(lines, "")
	}
	if m.grid == nil {
		return text + "grid -\n"
	}
	return text + "grid " + strings.Join(spell(m.grid), " ") + "\n"
}

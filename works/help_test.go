package works_test

import (
	"math/rand/v2"
	"slices"
	"strconv"
	"strings"
	"testing"

	"gherkin/api"
	"gherkin/works"
)

// newDisk returns one with so many pages.
func newDisk(t *testing.T, pages int) *works.Disk {
	t.Helper()
	d, e := works.NewDisk(pages)
	if e != api.OK || d == nil {
		t.Fatalf("NewDisk(%d): %v, error %d", pages, d, e)
	}
	return d
}

// open opens the works of a disk.
func open(t *testing.T, d *works.Disk) *works.Works {
	t.Helper()
	w, e := works.Open(d)
	if e != api.OK || w == nil {
		t.Fatalf("Open: %v, error %d", w, e)
	}
	return w
}

// newWorks returns works on a disk of their own, after those changes.
func newWorks(t *testing.T, changes ...string) *works.Works {
	t.Helper()
	w := open(t, newDisk(t, 200))
	does(t, w, changes...)
	return w
}

// does makes changes that have no error.
func does(t *testing.T, w *works.Works, changes ...string) {
	t.Helper()
	for _, line := range changes {
		if reply, e := w.Do(line); e != api.OK {
			t.Fatalf("Do(%q): %q, error %d", line, reply, e)
		}
	}
}

// mustDo makes a change of the model.
func mustDo(t *testing.T, m *model, change string) {
	t.Helper()
	if _, e := m.do(change); e != api.OK {
		t.Fatalf("%q of the model: error %d", change, e)
	}
}

// commits makes the changes safe.
func commits(t *testing.T, w *works.Works) {
	t.Helper()
	isError(t, w.Commit(), api.OK, "Commit")
}

func isError(t *testing.T, e, want api.Errno, call string) {
	t.Helper()
	if e != want {
		t.Errorf("%s: error %d, not %d", call, e, want)
	}
}

// is checks a reply, or an error without one.
func is(t *testing.T, reply string, e api.Errno, want string, wantError api.Errno, call, line string) {
	t.Helper()
	if reply != want || e != wantError {
		t.Errorf("%s(%q): %q, error %d; not %q, error %d", call, line, reply, e, want, wantError)
	}
}

// replies checks the reply to a change.
func replies(t *testing.T, w *works.Works, line, want string) {
	t.Helper()
	reply, e := w.Do(line)
	is(t, reply, e, want, api.OK, "Do", line)
}

// answers checks the reply to a question.
func answers(t *testing.T, w *works.Works, line, want string) {
	t.Helper()
	reply, e := w.Ask(line)
	is(t, reply, e, want, api.OK, "Ask", line)
}

// refuses checks the error of a change, and that nothing has changed.
func refuses(t *testing.T, w *works.Works, line string, want api.Errno) {
	t.Helper()
	state, journal := w.State(), w.Journal()
	reply, e := w.Do(line)
	is(t, reply, e, "", want, "Do", line)
	isState(t, w, state)
	isJournal(t, w, journal)
}

// refusesQuestion checks the error of a question.
func refusesQuestion(t *testing.T, w *works.Works, line string, want api.Errno) {
	t.Helper()
	reply, e := w.Ask(line)
	is(t, reply, e, "", want, "Ask", line)
}

func isState(t *testing.T, w *works.Works, want string) {
	t.Helper()
	if state := w.State(); state != want {
		t.Errorf("State after %q: %q, not %q", w.Journal(), state, want)
	}
}

func isJournal(t *testing.T, w *works.Works, want []string) {
	t.Helper()
	if journal := w.Journal(); !slices.Equal(journal, want) {
		t.Errorf("Journal: %q, not %q", journal, want)
	}
}

// isPage checks what a page has.
func isPage(t *testing.T, d *works.Disk, page int, want string) {
	t.Helper()
	if s, e := d.Read(page); s != want || e != api.OK {
		t.Errorf("Read(%d): %q, error %d; not %q", page, s, e, want)
	}
}

// writes writes pages from page first on, and makes them safe.
func writes(t *testing.T, d *works.Disk, first int, texts ...string) {
	t.Helper()
	for i, s := range texts {
		isError(t, d.Write(first+i, s), api.OK, "Write")
	}
	isError(t, d.Sync(), api.OK, "Sync")
}

func newRandom(seed uint64) *rand.Rand { return rand.New(rand.NewPCG(10, seed)) }

func pick[T any](random *rand.Rand, list []T) T { return list[random.IntN(len(list))] }

// between returns a number from low to high.
func between(random *rand.Rand, low, high int) int { return low + random.IntN(high-low+1) }

// line puts words and numbers together.
func line(word string, numbers ...int) string {
	return strings.Join(append([]string{word}, spell(numbers)...), " ")
}

// Names of which some begin with others.
var names = []string{"a", "ab", "abc", "b", "ba", "zz", "z", "oak", "elm", "ash", "pickles", "gherkins", "y"}

// someChange returns a line of any kind, in most cases a change without an error.
func someChange(random *rand.Rand) string {
	name := pick(random, names)
	switch random.IntN(16) {
	case 0, 1, 2, 3:
		m := pick(random, []int{1, 2, 3, 4, 5, 6, 7, 8, 9, 10, 12, 14, 15, 16, 20, 30, 32, 60, 61, 11})
		return line("vat "+name, between(random, 0, m), m)
	case 4, 5:
		return line("grower "+name, between(random, 0, 7), between(random, 1, 61))
	case 6, 7:
		return line("pack "+name, someParts(random)...)
	case 8:
		grid := make([]int, 4)
		for i := range grid {
			grid[i] = between(random, -4, 4)
		}
		grid[random.IntN(4)] = between(random, -21, 21)
		return line("grid", grid...)
	case 9, 10, 11, 12:
		far := pick(random, []int{5, 20, 101})
		return line("crate", between(random, -far, far), between(random, -far, far))
	case 13, 14:
		return "drop " + name
	}
	return spoilt(random, pick(random, []string{"vat y 0 1", "grower y 1 60", "pack y 1", "grid 1 0 0 1", "crate 0 0", "drop y", "rest"}))
}

// someParts returns numbers that are often a partition.
func someParts(random *rand.Rand) []int {
	list := make([]int, between(random, 1, 11))
	for i := range list {
		list[i] = between(random, 1, 40/len(list))
	}
	if random.IntN(8) > 0 {
		slices.Sort(list)
		slices.Reverse(list)
	}
	if random.IntN(8) == 0 {
		list[len(list)-1] = 0
	}
	return list
}

// spoilt changes a byte, or takes one away, or puts one in.
func spoilt(random *rand.Rand, line string) string {
	i := random.IntN(len(line))
	b := string([]byte{pick(random, []byte(" -0129azA/\n\t\x00\x7f\x80\xff"))})
	return line[:i] + pick(random, []string{"", b, b + line[i:i+1]}) + line[i+1:]
}

// someQuestion returns a line of any kind, in most cases a question.
func someQuestion(random *rand.Rand) string {
	name := pick(random, names)
	switch random.IntN(16) {
	case 0, 1, 2:
		return line("stir", between(random, 0, pick(random, []int{10, 20_000, 999_999})))
	case 3:
		return pick(random, []string{"idle", "rest", "crates"})
	case 4, 5:
		return "sum " + name
	case 6, 7:
		return "box " + name
	case 8:
		return line("core "+name, between(random, 0, 11))
	case 9, 10:
		return line("near", between(random, -101, 101), between(random, -101, 101))
	case 11:
		return line("brine", between(random, 0, 101), between(random, 0, 1001))
	case 12:
		return line("label", between(random, 0, 999_999))
	case 13:
		return line("root", between(random, 0, 30), between(random, 0, 35))
	case 14:
		return line("lift", between(random, -30, 30), between(random, 0, 12), between(random, 0, 5))
	}
	return pick(random, []string{line("shape", between(random, 4, 32), between(random, 0, 31), between(random, 0, 31)), spoilt(random, "near 0 0"), "drop " + name, "stir " + strconv.Itoa(-random.IntN(3))})
}

package works_test

import (
	"math"
	"slices"
	"strconv"
	"strings"
	"testing"

	"gherkin/api"
	"gherkin/parts"
	"gherkin/works"
)

// A modelDisk keeps for each page what was written on it since it was safe.
type modelDisk struct {
	written [][]string // the first text is safe
	off     bool
	left    int // operations before the power goes off, or -1
}

func newModelDisk(pages int) *modelDisk {
	m := &modelDisk{left: -1}
	for range pages {
		m.written = append(m.written, []string{""})
	}
	return m
}

func (m *modelDisk) operation() api.Errno {
	switch {
	case m.off:
		return api.ErrPower
	case m.left == 0:
		m.off = true
		return api.ErrPower
	case m.left > 0:
		m.left--
	}
	return api.OK
}

func (m *modelDisk) write(page int, s string) api.Errno {
	if page < 0 || page >= len(m.written) || len(s) > 80 {
		return api.ErrArg
	}
	e := m.operation()
	if e == api.OK {
		m.written[page] = append(m.written[page], s)
	}
	return e
}

func (m *modelDisk) sync() api.Errno {
	e := m.operation()
	if e == api.OK {
		for i, l := range m.written {
			m.written[i] = l[len(l)-1:]
		}
	}
	return e
}

func (m *modelDisk) read(page int) (string, api.Errno) {
	if page < 0 || page >= len(m.written) {
		return "", api.ErrArg
	}
	if m.off {
		return "", api.ErrPower
	}
	l := m.written[page]
	return l[len(l)-1], api.OK
}

func (m *modelDisk) fuse(k int) {
	if !m.off {
		m.left = max(k, -1)
	}
}

func (m *modelDisk) crash(keep []int) {
	for i, l := range m.written {
		if slices.Contains(keep, i) {
			m.written[i] = l[len(l)-1:]
		} else {
			m.written[i] = l[:1]
		}
	}
	m.off = false
	m.left = -1
}

// P10.1
func TestDiskAgainstModel(t *testing.T) {
	for seed := range uint64(300) {
		random := newRandom(seed)
		pages := pick(random, []int{1, 2, 5, 200})
		d, m := newDisk(t, pages), newModelDisk(pages)
		for step := range 300 {
			page := between(random, -1, min(pages, 6))
			switch random.IntN(12) {
			case 0, 1, 2, 3, 4, 5:
				s := strings.Repeat("x", pick(random, []int{0, 60, 80, 81})) + strconv.Itoa(step)
				s = s[:max(0, len(s)-2)]
				isError(t, d.Write(page, s), m.write(page, s), "Write")
			case 6, 7:
				isError(t, d.Sync(), m.sync(), "Sync")
			case 8, 9:
				k := between(random, -3, 20)
				d.Fuse(k)
				m.fuse(k)
			case 10:
				keep := []int{page, page + 2, between(random, -1, pages), math.MaxInt, math.MinInt}[:random.IntN(6)]
				d.Crash(keep)
				m.crash(keep)
			}
			for page := -1; page <= min(pages, 6); page++ {
				s, e := d.Read(page)
				want, wantError := m.read(page)
				is(t, s, e, want, wantError, "Read", strconv.Itoa(page))
			}
		}
	}
}

// P10.1
func TestNewDisk(t *testing.T) {
	for pages := 1; pages <= 200; pages++ {
		d := newDisk(t, pages)
		for page := range pages {
			isPage(t, d, page, "")
		}
		_, e := d.Read(pages)
		isError(t, e, api.ErrArg, "Read behind the last page")
		isError(t, d.Write(pages-1, "x"), api.OK, "Write to the last page")
		isError(t, d.Write(pages, "x"), api.ErrArg, "Write behind the last page")
	}
}

// P10.1
func TestWrite(t *testing.T) {
	d := newDisk(t, 2)
	long := strings.Repeat("\x00\xff\n ", 20)
	for _, s := range []string{long, "", "0 vat ada 0 2", "any text"} {
		isError(t, d.Write(1, s), api.OK, "Write")
		isPage(t, d, 1, s)
		isPage(t, d, 0, "")
	}
	isError(t, d.Write(1, long+"x"), api.ErrArg, "Write of 81 bytes")
	isPage(t, d, 1, "any text")
}

// P10.1: what was safe last is kept over several writes, Sync makes all pages safe,
// and so does Crash, also those that it does not keep.
func TestCrash(t *testing.T) {
	d := newDisk(t, 4)
	writes(t, d, 0, "a", "b", "c")
	for _, s := range []string{"d", "e"} {
		for page := range 4 {
			isError(t, d.Write(page, s), api.OK, "Write")
		}
	}
	d.Crash([]int{1, 3, 3, 4, -1, 1 << 40, math.MinInt})
	for page, s := range []string{"a", "e", "c", "e"} {
		isPage(t, d, page, s)
	}
	d.Crash(nil)
	for page, s := range []string{"a", "e", "c", "e"} {
		isPage(t, d, page, s)
	}
	isError(t, d.Write(0, ""), api.OK, "Write")
	d.Crash([]int{})
	isPage(t, d, 0, "a")
}

// P10.1: Read and what has another error take nothing from the fuse.
func TestFuse(t *testing.T) {
	d := newDisk(t, 2)
	d.Fuse(2)
	isError(t, d.Write(0, "a"), api.OK, "Write")
	for range 5 {
		isError(t, d.Write(2, "x"), api.ErrArg, "Write to no page")
		isError(t, d.Write(0, strings.Repeat("x", 81)), api.ErrArg, "Write of 81 bytes")
		isPage(t, d, 0, "a")
	}
	isError(t, d.Sync(), api.OK, "Sync")
	isPage(t, d, 0, "a")
	isError(t, d.Write(0, "b"), api.ErrPower, "Write with the fuse burnt down")
	_, e := d.Read(0)
	isError(t, e, api.ErrPower, "Read without power")
	_, e = d.Read(2)
	isError(t, e, api.ErrArg, "Read of no page without power")
	isError(t, d.Write(-1, ""), api.ErrArg, "Write to no page without power")
	isError(t, d.Sync(), api.ErrPower, "Sync without power")
	d.Fuse(5)
	isError(t, d.Sync(), api.ErrPower, "Sync without power")
	d.Fuse(-1)
	isError(t, d.Write(1, "b"), api.ErrPower, "Write without power")
	d.Crash([]int{0, 1})
	isPage(t, d, 0, "a")
	isPage(t, d, 1, "")
	for range 10 {
		isError(t, d.Sync(), api.OK, "Sync after Crash, without a fuse")
	}
}

// P10.1: another fuse takes the place of the first, and Crash takes it away.
func TestFuses(t *testing.T) {
	d := newDisk(t, 1)
	for _, k := range []int{-1, -5, math.MinInt} {
		d.Fuse(0)
		d.Fuse(k)
		isError(t, d.Sync(), api.OK, "Sync without a fuse")
	}
	d.Fuse(0)
	d.Fuse(1)
	isError(t, d.Sync(), api.OK, "Sync")
	d.Crash(nil)
	isError(t, d.Sync(), api.OK, "Sync without a fuse")
	d.Fuse(math.MaxInt)
	isError(t, d.Sync(), api.OK, "Sync")
	d.Fuse(0)
	isError(t, d.Sync(), api.ErrPower, "Sync")
}

// P10.2: the books end with the first page that does not belong to them; all pages
// behind them are empty then, and safe.
func TestOpen(t *testing.T) {
	for _, c := range []struct {
		pages []string
		books int
	}{
		{nil, 0},
		{[]string{"0 vat ada 0 2"}, 1},
		{[]string{"0 vat ada 0 2", "1 vat bob 1 4", "2 drop ada"}, 3},
		{[]string{"0 vat ada 0 2", "", "2 drop ada"}, 1},
		{[]string{"", "1 vat ada 0 2"}, 0},
		{[]string{"1 vat ada 0 2"}, 0},
		{[]string{"0 vat ada 0 2", "0 vat bob 1 4"}, 1},
		{[]string{"0 vat ada 0 2", "01 vat bob 1 4"}, 1},
		{[]string{"0 vat ada 0 2", "+1 vat bob 1 4"}, 1},
		{[]string{"0 vat ada 0 2", "1  vat bob 1 4"}, 1},
		{[]string{"0 vat ada 0 2", " 1 vat bob 1 4"}, 1},
		{[]string{"0 vat ada 0 2", "1 vat bob 1 4 "}, 1},
		{[]string{"0 vat ada 0 2", "1 vat bob 1 04"}, 1},
		{[]string{"0 vat ada 0 2", "1vat bob 1 4"}, 1},
		{[]string{"0 vat ada 0 2", "1"}, 1},
		{[]string{"0 vat ada 0 2", "1 "}, 1},
		{[]string{"0 vat ada 0 2", "vat bob 1 4"}, 1},
		{[]string{"0 vat ada 0 2", "1 idle"}, 1},
		{[]string{"0 vat ada 0 2", "1 vat ada 1 4"}, 1},
		{[]string{"0 vat ada 0 2", "1 drop bob", "2 vat bob 1 4"}, 1},
		{[]string{"0 vat ada 0 2", "1 vat bob 4 4"}, 1},
		{[]string{"0 crate 0 0", "1 grid 1 0 0 1", "2 crate 0 0"}, 0},
		{[]string{"0 grid 1 0 0 1", "1 crate 0 0", "2 crate 0 0", "3 crate 0 1"}, 2},
		{[]string{"0 grower eva 1 2", "1 grower tom 1 2", "2 grower kim 1 60"}, 2},
		{[]string{"0 pack kit 1 1 1 1 1 1 1 1 1 1", "1 pack tin 1 1 1 1 1 1 1 1 1 1 1"}, 1},
		{[]string{"0 pack kit 111111 111111 111111 111111 111111 111111 111111 1"}, 0},
		{[]string{"\x00", "1 vat ada 0 2"}, 0},
	} {
		d := newDisk(t, 8)
		writes(t, d, 0, c.pages...)
		w := open(t, d)
		journal := []string{}
		for page := range 8 {
			want := ""
			if page < c.books {
				want = c.pages[page]
				journal = append(journal, want[2:])
			}
			isPage(t, d, page, want)
		}
		isJournal(t, w, journal)
		isState(t, w, newWorks(t, journal...).State())
		d.Crash(nil)
		isJournal(t, open(t, d), journal)
	}
}

// P10.2: the numbers of pages with more than one digit.
func TestOpenLongBooks(t *testing.T) {
	d := newDisk(t, 120)
	w := open(t, d)
	var journal []string
	for i := range 120 {
		change := "vat ada 0 2"
		if i%2 > 0 {
			change = "drop ada"
		}
		does(t, w, change)
		isPage(t, d, i, strconv.Itoa(i)+" "+change)
		journal = append(journal, change)
	}
	isJournal(t, open(t, d), journal)
	isError(t, d.Write(100, "10 vat ada 0 2"), api.OK, "Write")
	isJournal(t, open(t, d), journal[:100])
}

// P10.2: pages are written empty, rising, then there is one Sync; a page that is empty
// takes nothing from the fuse, and without any other one there is no Sync.
func TestOpenOperations(t *testing.T) {
	texts := []string{"0 vat ada 0 2", "", "2 drop ada", "", "x", "", "", "7 drop ada"}
	for k := range 5 {
		d := newDisk(t, 8)
		writes(t, d, 0, texts...)
		d.Fuse(k)
		w, e := works.Open(d)
		if k == 4 {
			isError(t, e, api.OK, "Open")
			isError(t, d.Sync(), api.ErrPower, "Sync after all operations")
			d.Crash(nil)
			for page, s := range []string{texts[0], "", "", "", "", "", "", ""} {
				isPage(t, d, page, s)
			}
			continue
		}
		if e != api.ErrPower || w != nil {
			t.Errorf("Open with the fuse %d: %v, error %d", k, w, e)
		}
		d.Crash([]int{0, 1, 2, 3, 4, 5, 6, 7})
		written := []int{2, 4, 7}[:k]
		for page, s := range texts {
			if slices.Contains(written, page) {
				s = ""
			}
			isPage(t, d, page, s)
		}
	}
	d := newDisk(t, 8)
	writes(t, d, 0, texts[0], "1 drop ada")
	d.Fuse(0)
	isJournal(t, open(t, d), []string{"vat ada 0 2", "drop ada"})
	isError(t, d.Sync(), api.ErrPower, "Sync")
}

// P10.2
func TestOpenWithoutPower(t *testing.T) {
	d := newDisk(t, 3)
	d.Fuse(0)
	isError(t, d.Sync(), api.ErrPower, "Sync")
	w, e := works.Open(d)
	if w != nil || e != api.ErrPower {
		t.Errorf("Open without power: %v, error %d", w, e)
	}
	d.Crash(nil)
	isJournal(t, open(t, d), nil)
}

// P10.3, P10.5
func TestWorksAgainstModel(t *testing.T) {
	for seed := range uint64(250) {
		random := newRandom(seed)
		w, m := newWorks(t), newModel()
		var journal []string
		for range 150 {
			change := someChange(random)
			reply, e := w.Do(change)
			want, wantError := m.do(change)
			is(t, reply, e, want, wantError, "Do", change)
			if e == api.OK {
				journal = append(journal, change)
			}
			question := someQuestion(random)
			reply, e = w.Ask(question)
			want, wantError = m.ask(question)
			is(t, reply, e, want, wantError, "Ask", question)
			isState(t, w, m.state())
		}
		isJournal(t, w, journal)
	}
}

// P10.3: of several errors the first one comes.
func TestErrorsOfChanges(t *testing.T) {
	var full []string
	for i := range 10 {
		full = append(full, "vat "+names[i]+" 0 1")
		if i < 8 {
			full = append(full, "grower "+names[i]+" 1 9", "pack "+names[i]+" 1")
		}
	}
	w := newWorks(t, full...)
	refuses(t, w, "crate 101 0", api.ErrNone)
	does(t, w, "grid 1 0 0 1")
	for i := range 12 {
		does(t, w, line("crate", i, 0))
	}
	for change, want := range map[string]api.Errno{
		"vat a 0 1": api.ErrState, "vat a 5 5": api.ErrState, "vat new 5 5": api.ErrFull, "vat new 0 1": api.ErrFull, "vat A 0 1": api.ErrForm,
		"grower a 1 9": api.ErrState, "grower a 9 9": api.ErrState, "grower new 9 9": api.ErrFull, "grower new 1 60": api.ErrFull, "grower new 1 -1": api.ErrForm,
		"pack a 1": api.ErrState, "pack a 1 2": api.ErrState, "pack new 1 2": api.ErrFull, "pack new 1": api.ErrFull, "pack new": api.ErrForm,
		"crate 101 0": api.ErrArg, "crate 11 0": api.ErrState, "crate 12 0": api.ErrFull, "crate 0": api.ErrForm,
		"grid 1 2 2 4": api.ErrArg, "grid 21 0 0 1": api.ErrArg, "grid 0 0 0 -21": api.ErrArg, "grid 0 0 0": api.ErrForm, "drop new": api.ErrNone,
	} {
		refuses(t, w, change, want)
	}
	does(t, w, "drop oak")
	refuses(t, w, "vat new 5 5", api.ErrArg)
	replies(t, w, "vat new 4 5", "vat")
}

// P10.3
func TestVats(t *testing.T) {
	w := newWorks(t, "vat a 0 32", "vat b 0 9", "vat c 0 5")
	refuses(t, w, "vat d 0 11", api.ErrArg)
	refuses(t, w, "vat d 0 49", api.ErrArg)
	replies(t, w, "vat d 6 7", "vat")
	refuses(t, w, "vat e 0 0", api.ErrArg)
	refuses(t, w, "vat e 60 60", api.ErrArg)
	refuses(t, w, "vat e 0 61", api.ErrArg)
	refuses(t, w, "vat e 0 999999", api.ErrArg)
	replies(t, w, "vat e 59 60", "vat")
	does(t, w, "drop a", "drop b", "drop c", "drop e")
	replies(t, w, "vat e 0 59", "vat")
	isState(t, w, "idle 1\nrest 1/1\ncrates\nvat d 6 7\nvat e 0 59\ngrid -\n")
}

// P10.3
func TestGrowers(t *testing.T) {
	w := newWorks(t)
	for _, change := range []string{"grower eva 0 2", "grower eva 2 2", "grower eva 3 2", "grower eva 1 61", "grower eva 1 1", "grower eva 1 0", "grower eva 0 0"} {
		refuses(t, w, change, api.ErrArg)
	}
	replies(t, w, "grower eva 2 4", "grower")
	refuses(t, w, "grower tom 31 60", api.ErrArg)
	replies(t, w, "grower tom 28 60", "grower")
	replies(t, w, "grower kim 1 30", "grower")
	answers(t, w, "rest", "rest 0/1")
	refuses(t, w, "grower leo 1 60", api.ErrArg)
	isState(t, w, "idle 0\nrest 0/1\ncrates\ngrower eva 2/4\ngrower kim 1/30\ngrower tom 28/60\ngrid -\n")
	// Denominators without common factors.
	w, m := newWorks(t), newModel()
	for i, b := range []int{59, 53, 47, 43, 41, 37, 31, 60} {
		change := line("grower "+names[i], 5, b)
		replies(t, w, change, "grower")
		mustDo(t, m, change)
	}
	answers(t, w, "rest", "rest "+m.rest().String())
}

// P10.3: all shares are taken, and their sums are found.
func TestAllShares(t *testing.T) {
	for b := 0; b <= 61; b++ {
		for a := 0; a <= b+1; a++ {
			w, m := newWorks(t), newModel()
			change := line("grower eva", a, b)
			reply, e := w.Do(change)
			want, wantError := m.do(change)
			is(t, reply, e, want, wantError, "Do", change)
			reply, e = w.Ask("sum eva")
			want, wantError = m.ask("sum eva")
			is(t, reply, e, want, wantError, "Ask", "sum of "+change)
		}
	}
}

// P10.3: fillings are told up to the sum 20.
func TestBoxesAndCores(t *testing.T) {
	w := newWorks(t, "pack a 20", "pack b 21", "pack c 3 3 3 3 3 3 3 3 3 3", "pack d 30", "pack e 10 10")
	answers(t, w, "box a", "box"+strings.Repeat(" 1", 20)+" f1")
	answers(t, w, "box b", "box"+strings.Repeat(" 1", 21)+" f-")
	answers(t, w, "box c", "box 10 10 10 f-")
	answers(t, w, "box d", "box"+strings.Repeat(" 1", 30)+" f-")
	answers(t, w, "box e", "box 2 2 2 2 2 2 2 2 2 2 f16796")
	answers(t, w, "core d 7", "core 2")
	answers(t, w, "core d 10", "core")
	refusesQuestion(t, w, "core d 0", api.ErrArg)
	refusesQuestion(t, w, "core d 11", api.ErrArg)
	refusesQuestion(t, w, "core f 0", api.ErrNone)
	refusesQuestion(t, w, "box f", api.ErrNone)
	refuses(t, w, "pack f 0", api.ErrArg)
	refuses(t, w, "pack f 31", api.ErrArg)
	refuses(t, w, "pack f 30 1", api.ErrArg)
	refuses(t, w, "pack f 1 2", api.ErrArg)
	refuses(t, w, "pack f 2 0", api.ErrArg)
	refuses(t, w, "pack f 1 1 1 1 1 1 1 1 1 1 1", api.ErrForm)
}

// P10.3: each partition that has room in a line.
func TestAllPackings(t *testing.T) {
	for n := 1; n <= 20; n++ {
		all, _ := parts.List(n)
		for _, l := range all {
			if len(l) > 10 {
				continue
			}
			w, m := newWorks(t, line("pack kit", l...)), newModel()
			mustDo(t, m, line("pack kit", l...))
			want, e := m.ask("box kit")
			isError(t, e, api.OK, "box of the model")
			answers(t, w, "box kit", want)
			isState(t, w, m.state())
		}
	}
}

// P10.3: a crate may stand at a vector beyond 100, and a grid takes all crates away,
// also if it is the same one.
func TestCrates(t *testing.T) {
	w := newWorks(t)
	answers(t, w, "crates", "crates")
	refusesQuestion(t, w, "near 101 0", api.ErrNone)
	refuses(t, w, "crate 0 0", api.ErrNone)
	replies(t, w, "grid -20 0 0 17", "grid")
	replies(t, w, "crate 100 100", "crate 100 102")
	replies(t, w, "crate -100 -100", "crate -100 -102")
	replies(t, w, "crate -10 8", "crate -20 0")
	replies(t, w, "crate -1 -8", "crate 0 0")
	refuses(t, w, "crate 1 8", api.ErrState)
	refuses(t, w, "crate 0 101", api.ErrArg)
	refuses(t, w, "crate -101 0", api.ErrArg)
	answers(t, w, "near 1 9", "near 0 17")
	refusesQuestion(t, w, "near 0 -101", api.ErrArg)
	refusesQuestion(t, w, "near 101 0", api.ErrArg)
	answers(t, w, "crates", "crates 100,102 -100,-102 -20,0 0,0")
	isState(t, w, "idle 0\nrest 1/1\ncrates 100,102 -100,-102 -20,0 0,0\ngrid -20 0 0 17\n")
	refuses(t, w, "grid 0 0 0 17", api.ErrArg)
	replies(t, w, "grid -20 0 0 17", "grid")
	isState(t, w, "idle 0\nrest 1/1\ncrates\ngrid -20 0 0 17\n")
	replies(t, w, "crate 1 8", "crate 0 0")
}

// P10.3: questions that the state has no part in.
func TestQuestionsForOthers(t *testing.T) {
	w := newWorks(t)
	for question, want := range map[string]string{
		"brine 2 10": "brine 7/5", "brine 2 1": "brine 1/1", "label 0": "label", "label 1": "label 2", "label 11": "label 6 4", "root 0 3": "root 0",
		"lift -1 5 2": "lift 7 18", "lift -1 3 1": "lift", "lift 0 2 2": "lift 0 2", "lift -999999 5 1": "lift 1 4", "shape 5 1 1": "shape 1 9", "shape 7 0 6": "shape 2 2",
	} {
		answers(t, w, question, want)
	}
	for question, want := range map[string]api.Errno{
		"brine 4 10": api.ErrArg, "brine 2 0": api.ErrArg, "brine 2 1001": api.ErrArg, "brine 101 1": api.ErrArg, "root 3 7": api.ErrNone, "root 7 7": api.ErrArg, "root 1 9": api.ErrArg,
		"lift 1 4 1": api.ErrArg, "lift 1 5 0": api.ErrArg, "shape 3 1 1": api.ErrArg, "shape 5 0 0": api.ErrArg, "shape 5 5 1": api.ErrArg,
		"brine -2 10": api.ErrForm, "label -1": api.ErrForm, "root -1 7": api.ErrForm, "lift 1 -5 2": api.ErrForm, "lift 1 5 -2": api.ErrForm, "shape 5 -1 1": api.ErrForm,
	} {
		refusesQuestion(t, w, question, want)
	}
	random := newRandom(1)
	for range 20_000 {
		question := someQuestion(random)
		want, wantError := newModel().ask(question)
		reply, e := w.Ask(question)
		is(t, reply, e, want, wantError, "Ask", question)
	}
}

// P10.3: a change without an error needs a page, and power for it.
func TestFullBooks(t *testing.T) {
	d := newDisk(t, 2)
	w := open(t, d)
	does(t, w, "vat ada 0 2", "vat bob 1 2")
	commits(t, w)
	d.Fuse(0)
	refuses(t, w, "drop bob", api.ErrFull)
	refuses(t, w, "drop cy", api.ErrNone)
	refuses(t, w, "drop", api.ErrForm)
	isError(t, w.Commit(), api.ErrNone, "Commit")
	isPage(t, d, 1, "1 vat bob 1 2")
	w = open(t, d)
	refuses(t, w, "drop bob", api.ErrFull)
	answers(t, w, "idle", "idle never")
}

// P10.3
func TestDoWithoutPower(t *testing.T) {
	d := newDisk(t, 5)
	w := open(t, d)
	does(t, w, "vat ada 0 2")
	d.Fuse(0)
	refuses(t, w, "vat ada 0 2", api.ErrState)
	refuses(t, w, "drop bob", api.ErrNone)
	isPage(t, d, 0, "0 vat ada 0 2")
	refuses(t, w, "drop ada", api.ErrPower)
	state := w.State()
	for _, change := range []string{"drop ada", "drop bob", "drop", "", "vat bob 0 2", "idle"} {
		refuses(t, w, change, api.ErrState)
	}
	isError(t, w.Commit(), api.ErrState, "Commit after ErrPower")
	answers(t, w, "idle", "idle 1")
	d.Crash([]int{0})
	refuses(t, w, "drop ada", api.ErrState)
	isError(t, w.Commit(), api.ErrState, "Commit after ErrPower")
	isState(t, w, state)
	isState(t, open(t, d), state)
	isPage(t, d, 1, "")
}

// P10.3, P10.4: works that have done nothing since the power went off learn of it by
// their own ErrPower.
func TestPowerOffElsewhere(t *testing.T) {
	d := newDisk(t, 5)
	w, v := open(t, d), open(t, d)
	does(t, v, "vat ada 0 2")
	d.Fuse(0)
	isError(t, d.Sync(), api.ErrPower, "Sync")
	isError(t, w.Commit(), api.ErrNone, "Commit of nothing")
	refuses(t, w, "drop bob", api.ErrNone)
	refuses(t, w, "vat bob 0 2", api.ErrPower)
	refuses(t, w, "vat bob 0 2", api.ErrState)
	isError(t, w.Commit(), api.ErrState, "Commit after ErrPower")
	isError(t, v.Commit(), api.ErrPower, "Commit without power")
	isError(t, v.Commit(), api.ErrState, "Commit after ErrPower")
	refuses(t, v, "drop", api.ErrState)
	isJournal(t, v, []string{"vat ada 0 2"})
}

// P10.4
func TestCommit(t *testing.T) {
	d := newDisk(t, 9)
	w := open(t, d)
	isError(t, w.Commit(), api.ErrNone, "Commit after Open")
	refuses(t, w, "drop ada", api.ErrNone)
	isError(t, w.Commit(), api.ErrNone, "Commit after a change with an error")
	does(t, w, "vat ada 0 2")
	if _, e := w.Ask("idle"); e != api.OK {
		t.Errorf("Ask: error %d", e)
	}
	commits(t, w)
	isError(t, w.Commit(), api.ErrNone, "Commit after Commit")
	does(t, w, "vat bob 1 4", "drop bob")
	d.Fuse(1)
	commits(t, w)
	isError(t, w.Commit(), api.ErrNone, "Commit after Commit")
	d.Fuse(-1)
	w = open(t, d)
	isError(t, w.Commit(), api.ErrNone, "Commit after Open of books")
	does(t, w, "vat cy 1 4")
	d.Fuse(0)
	isError(t, w.Commit(), api.ErrPower, "Commit without power")
	isError(t, w.Commit(), api.ErrState, "Commit after ErrPower")
	d.Crash(nil)
	isError(t, w.Commit(), api.ErrState, "Commit after ErrPower")
	isJournal(t, open(t, d), []string{"vat ada 0 2", "vat bob 1 4", "drop bob"})
}

// P10.5
func TestState(t *testing.T) {
	w := newWorks(t)
	isState(t, w, "idle 0\nrest 1/1\ncrates\ngrid -\n")
	isJournal(t, w, nil)
	changes := []string{
		"vat zoe 0 3", "vat ada 1 3", "vat adam 1 2", "grower tom 2 6", "grower eva 1 6", "pack tin 2 2", "pack kit 5 3 1", "grid -1 0 0 -2", "crate 3 1", "crate -3 -1", "crate 0 0",
	}
	does(t, w, changes...)
	isState(t, w, "idle 2\nrest 1/2\ncrates 3,0 -3,-2 0,0\nvat ada 1 3\nvat adam 1 2\nvat zoe 0 3\ngrower eva 1/6\ngrower tom 2/6\npack kit 5 3 1\npack tin 2 2\ngrid -1 0 0 -2\n")
	isJournal(t, w, changes)
	answers(t, w, "stir 7", "stir ada adam")
	answers(t, w, "stir 3", "stir adam zoe")
	answers(t, w, "stir 2", "stir")
	does(t, w, "vat elm 2 6", "vat oak 2 3")
	answers(t, w, "idle", "idle never")
}

// The chapter's examples, and the document's.
func TestExamples(t *testing.T) {
	w := newWorks(t)
	replies(t, w, "vat ada 0 2", "vat")
	replies(t, w, "vat bob 1 4", "vat")
	answers(t, w, "stir 5", "stir bob")
	answers(t, w, "idle", "idle 3")
	replies(t, w, "vat cy 3 4", "vat")
	answers(t, w, "idle", "idle never")
	replies(t, w, "grower eva 4 5", "grower")
	answers(t, w, "sum eva", "sum 2 2 5")
	answers(t, w, "rest", "rest 1/5")
	replies(t, w, "pack kit 5 3 1", "pack")
	answers(t, w, "box kit", "box 3 2 2 1 1 f162")
	replies(t, w, "grid 2 0 1 2", "grid")
	replies(t, w, "crate 1 1", "crate 1 2")
	answers(t, w, "crates", "crates 1,2")
	refuses(t, w, "crate 1 1", api.ErrState)
}

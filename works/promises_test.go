package works_test

import (
	"math/big"
	"math/rand/v2"
	"slices"
	"strconv"
	"strings"
	"testing"

	"gherkin/api"
	"gherkin/parts"
	"gherkin/works"
)

// live makes changes, with a Commit for each empty line, until the power goes off. It
// returns how many changes are acknowledged, if before were.
func live(t *testing.T, w *works.Works, script []string, before int) int {
	t.Helper()
	for _, change := range script {
		var e api.Errno
		if change == "" {
			e = w.Commit()
		} else {
			_, e = w.Do(change)
		}
		if e == api.ErrPower {
			return before
		}
		if e == api.OK && change == "" {
			before = len(w.Journal())
		}
	}
	return before
}

// books returns the changes that are in the books by their definition.
func books(d *works.Disk, pages int) []string {
	m := newModel()
	var list []string
	for page := range pages {
		s, _ := d.Read(page)
		change, found := strings.CutPrefix(s, strconv.Itoa(page)+" ")
		if !found {
			break
		}
		if _, e := m.do(change); e != api.OK {
			break
		}
		list = append(list, change)
	}
	return list
}

// isDurable checks a journal after a power loss: it begins with all that is
// acknowledged, and is a beginning of all that was done.
func isDurable(t *testing.T, journal, done []string, acknowledged int) {
	t.Helper()
	if len(journal) < acknowledged || len(journal) > len(done) || !slices.Equal(journal, done[:len(journal)]) {
		t.Errorf("Journal: %q after %q, of which %d are acknowledged", journal, done, acknowledged)
	}
}

// subset returns the pages of a set of bits.
func subset(bits int) []int {
	var list []int
	for i := range 16 {
		if bits>>i&1 > 0 {
			list = append(list, i)
		}
	}
	return list
}

// reopens opens works with power losses at the first operations of Open, and checks
// that they come to the same books.
func reopens(t *testing.T, d *works.Disk, pages, keep int) *works.Works {
	t.Helper()
	want := books(d, pages)
	for _, fuse := range []int{0, 0, 1, 2, 1, 3, 9} {
		d.Fuse(fuse)
		w, e := works.Open(d)
		switch e {
		case api.OK:
			isJournal(t, w, want)
		case api.ErrPower:
			if w != nil {
				t.Errorf("Open: works together with ErrPower")
			}
		default:
			t.Errorf("Open: error %d", e)
		}
		d.Crash(subset(keep))
		keep = keep*5 + 1
	}
	w := open(t, d)
	isJournal(t, w, want)
	for page := len(want); page < pages; page++ {
		isPage(t, d, page, "")
	}
	return w
}

// P10.6: the power goes off at each operation, and all sets of pages are kept; then
// there is a second life, with all of it again.
func TestDurability(t *testing.T) {
	first := []string{"vat ada 0 2", "", "vat bob 1 4", "grower eva 4 5", "drop bob", "", "pack kit 5 3 1", "vat bob 3 4"}
	second := []string{"vat cy 0 2", "", "vat bob 1 4", "drop cy", "vat cy 1 2", "vat dan 1 2"}
	const pages = 8
	for fuse := range len(first) + 1 {
		for keep := range 1 << 6 {
			d := newDisk(t, pages)
			w := open(t, d)
			d.Fuse(fuse)
			acknowledged := live(t, w, first, 0)
			done := w.Journal()
			d.Crash(subset(keep))
			isDurable(t, books(d, pages), done, acknowledged)
			for again := range len(second) + 1 {
				w := reopens(t, d, pages, keep)
				safe := w.Journal()
				isDurable(t, safe, done, acknowledged)
				d.Fuse(again)
				acknowledged = live(t, w, second, len(safe))
				done = w.Journal()
				d.Crash(subset(keep * 37 >> (again % 4)))
			}
			isDurable(t, open(t, d).Journal(), done, acknowledged)
		}
	}
}

// P10.6: one disk with many lives, some of which end with the power on.
func TestManyLives(t *testing.T) {
	for seed := range uint64(60) {
		random := newRandom(seed)
		pages := pick(random, []int{6, 16, 40, 200})
		d := newDisk(t, pages)
		var done []string
		acknowledged := 0
		for range 60 {
			if random.IntN(2) == 0 {
				reopens(t, d, pages, random.IntN(1<<16))
			}
			w := open(t, d)
			isDurable(t, w.Journal(), done, acknowledged)
			isState(t, w, newWorks(t, w.Journal()...).State())
			var script []string
			for range random.IntN(12) {
				script = append(script, pick(random, []string{"", someChange(random), someChange(random), someChange(random)}))
			}
			d.Fuse(random.IntN(12) - 1)
			acknowledged = live(t, w, script, len(w.Journal()))
			done = w.Journal()
			d.Crash(random.Perm(pages)[:random.IntN(pages)])
		}
	}
}

// someWorks returns works after random changes.
func someWorks(t *testing.T, random *rand.Rand, most int) *works.Works {
	w := newWorks(t)
	for range random.IntN(most) {
		w.Do(someChange(random))
	}
	return w
}

// P10.7
func TestReplay(t *testing.T) {
	for seed := range uint64(200) {
		w := someWorks(t, newRandom(seed), 190)
		isState(t, newWorks(t, w.Journal()...), w.State())
	}
}

// P10.8: all days of the greatest whole too.
func TestStirredDays(t *testing.T) {
	lists := [][]vat{
		{{"a", 0, 2}, {"b", 1, 4}, {"c", 3, 4}}, {{"a", 0, 2}, {"b", 0, 3}, {"c", 1, 4}, {"d", 5, 6}, {"e", 7, 12}}, {{"a", 0, 1}}, {{"a", 31, 32}, {"b", 44, 45}, {"c", 0, 7}},
		{{"a", 0, 2}, {"b", 0, 3}, {"c", 1, 4}, {"d", 5, 6}, {"e", 6, 12}}, {{"a", 59, 60}}, {{"a", 0, 60}, {"b", 0, 60}},
	}
	random := newRandom(8)
	for range 300 {
		var list []vat
		for i := range between(random, 1, 8) {
			m := pick(random, []int{2, 2, 3, 4, 4, 6, 8, 12})
			list = append(list, vat{names[i], random.IntN(m), m})
		}
		list = append(list, vat{"rare", 0, 12})
		lists = append(lists, list)
	}
	for _, list := range lists {
		w := newWorks(t)
		for _, v := range list {
			does(t, w, line("vat "+v.name, v.a, v.m))
		}
		idle := "idle never"
		for day := whole(list) - 1; day >= 0; day-- {
			reply, e := w.Ask(line("stir", day))
			isError(t, e, api.OK, "Ask")
			named := strings.Split(reply, " ")[1:]
			for _, v := range list {
				if slices.Contains(named, v.name) != ((day-v.a)%v.m == 0) {
					t.Errorf("stir %d: %q with the vats %v", day, reply, list)
				}
			}
			if len(named) == 0 {
				idle = line("idle", day)
			}
		}
		answers(t, w, "idle", idle)
	}
}

// P10.9: the shares of all growers and the rest are 1.
func TestRest(t *testing.T) {
	for seed := range uint64(400) {
		random := newRandom(seed)
		w := newWorks(t)
		for range 40 {
			b := between(random, 2, 60)
			w.Do(line("grower "+pick(random, names), between(random, 1, max(1, b/pick(random, []int{1, 2, 8}))), b))
			reply, e := w.Ask("rest")
			rest, ok := new(big.Rat).SetString(strings.TrimPrefix(reply, "rest "))
			if !ok || e != api.OK || rest.Sign() < 0 || "rest "+rest.String() != reply {
				t.Fatalf("rest: %q, error %d", reply, e)
			}
			sum := new(big.Rat).Set(rest)
			for _, change := range w.Journal() {
				_, numbers := said(change)
				sum.Add(sum, big.NewRat(int64(numbers[0]), int64(numbers[1])))
			}
			if sum.Cmp(big.NewRat(1, 1)) != 0 {
				t.Errorf("%q after %q", reply, w.Journal())
			}
		}
	}
}

// P10.10
func TestCratesStandApart(t *testing.T) {
	for seed := range uint64(300) {
		random := newRandom(seed)
		w := newWorks(t)
		grid := []int{between(random, -20, 20), between(random, -20, 20), between(random, -20, 20), between(random, -20, 20)}
		if grid[0]*grid[3] == grid[1]*grid[2] {
			continue
		}
		does(t, w, line("grid", grid...))
		far := pick(random, []int{10, 30, 100})
		for range 40 {
			w.Do(line("crate", between(random, -far, far), between(random, -far, far)))
		}
		reply, _ := w.Ask("crates")
		places := strings.Split(reply, " ")[1:]
		if len(places) == 0 || len(places) > 12 || len(places) != len(w.Journal())-1 {
			t.Errorf("%q after %q", reply, w.Journal())
		}
		for i, place := range places {
			if slices.Contains(places[:i], place) {
				t.Errorf("two crates stand at %s", place)
			}
			at := strings.Replace(place, ",", " ", 1)
			_, numbers := said(at)
			if min(numbers[0], numbers[1]) >= -100 && max(numbers[0], numbers[1]) <= 100 {
				answers(t, w, "near "+at, "near "+at)
			}
		}
	}
}

// P10.11: all partitions up to 20 that have room, and some above.
func TestConjugatePackings(t *testing.T) {
	var all [][]int
	for n := 1; n <= 20; n++ {
		l, _ := parts.List(n)
		all = append(all, l...)
	}
	random := newRandom(11)
	for range 2000 {
		l := someParts(random)
		if _, e := parts.Conjugate(l); e == api.OK {
			all = append(all, l)
		}
	}
	for _, l := range all {
		c, _ := parts.Conjugate(l)
		if len(l) > 10 || len(c) > 10 {
			continue
		}
		w := newWorks(t, line("pack kit", l...), line("pack tin", c...))
		kit, e := w.Ask("box kit")
		isError(t, e, api.OK, "Ask")
		fillings := kit[strings.LastIndex(kit, " "):]
		answers(t, w, "box kit", line("box", c...)+fillings)
		answers(t, w, "box tin", line("box", l...)+fillings)
	}
}

// replyTo returns what Ask says to a question, also if that is an error.
func replyTo(w *works.Works, question string) string {
	reply, e := w.Ask(question)
	return reply + " " + strconv.Itoa(int(e))
}

// P10.12
func TestVatAndDrop(t *testing.T) {
	for seed := range uint64(300) {
		random := newRandom(seed)
		w := someWorks(t, random, 60)
		questions := []string{"idle", "rest", "crates"}
		for range 100 {
			questions = append(questions, someQuestion(random))
		}
		var before []string
		for _, question := range questions {
			before = append(before, replyTo(w, question))
		}
		state := w.State()
		if _, e := w.Do(line("vat mid", random.IntN(2), 2)); e != api.OK {
			continue
		}
		does(t, w, "drop mid")
		isState(t, w, state)
		for i, question := range questions {
			if after := replyTo(w, question); after != before[i] {
				t.Errorf("%q after vat and drop: %q, not %q", question, after, before[i])
			}
		}
	}
}

// P10.13
func TestAskChangesNothing(t *testing.T) {
	for seed := range uint64(100) {
		random := newRandom(seed)
		d := newDisk(t, 100)
		w := open(t, d)
		for range 80 {
			w.Do(someChange(random))
		}
		w.Commit()
		d.Fuse(0)
		state, journal := w.State(), w.Journal()
		for range 200 {
			w.Ask(pick(random, []string{someQuestion(random), someChange(random)}))
			isState(t, w, state)
		}
		isJournal(t, w, journal)
		isError(t, w.Commit(), api.ErrNone, "Commit of nothing but questions")
		isError(t, d.Sync(), api.ErrPower, "Sync, the first operation")
	}
}

// P10.14
func TestOrderOfNames(t *testing.T) {
	lists := [][]string{
		{"grower eva 1 4", "grower tom 1 4", "grower evan 1 4", "grower e 1 4"},
		{"pack kit 1", "pack kits 2", "pack ki 3 1", "pack a 4", "grower eva 1 2", "grower tom 1 2"},
		{"grower a 1 59", "grower b 1 53", "grower c 1 47", "pack z 5", "pack a 5", "grower d 45 60"},
	}
	random := newRandom(14)
	for _, list := range lists {
		list = append(list, "vat ada 0 2", "vat bob 1 4")
		state := newWorks(t, list...).State()
		for range 300 {
			random.Shuffle(len(list), func(i, j int) { list[i], list[j] = list[j], list[i] })
			isState(t, newWorks(t, list...), state)
		}
	}
}

package works_test

import (
	"math"
	"slices"
	"strings"
	"testing"

	"gherkin/api"
	"gherkin/works"
)

// P10.1
func TestNoDiskOfAnotherSize(t *testing.T) {
	for _, pages := range []int{0, -1, -200, 201, 202, 1000, 1<<32 + 1, 1<<40 + 5, 1<<62 + 1, math.MaxInt, math.MinInt, math.MinInt + 1} {
		if d, e := works.NewDisk(pages); d != nil || e != api.ErrArg {
			t.Errorf("NewDisk(%d): %v, error %d", pages, d, e)
		}
	}
}

// P10.1
func TestNoOtherPage(t *testing.T) {
	d := newDisk(t, 3)
	for _, page := range []int{-1, -3, 3, 4, 200, 1 << 32, 1<<40 + 1, math.MaxInt, math.MinInt, math.MinInt + 1} {
		isError(t, d.Write(page, ""), api.ErrArg, "Write to no page")
		s, e := d.Read(page)
		is(t, s, e, "", api.ErrArg, "Read", "no page")
	}
	for _, size := range []int{81, 82, 256, 1 << 16, 1 << 20} {
		isError(t, d.Write(0, strings.Repeat("x", size)), api.ErrArg, "Write of too long a text")
	}
	isPage(t, d, 0, "")
}

// P10.1, and rule 5: a copy is not what NewDisk returned.
func TestDisksThatNothingMade(t *testing.T) {
	copied := *newDisk(t, 5)
	for _, d := range []*works.Disk{nil, {}, new(works.Disk), &copied} {
		d.Fuse(0)
		d.Fuse(-1)
		d.Crash(nil)
		d.Crash([]int{0})
		isError(t, d.Write(0, "x"), api.ErrNil, "Write of no disk")
		isError(t, d.Write(-1, "x"), api.ErrNil, "Write of no disk")
		isError(t, d.Sync(), api.ErrNil, "Sync of no disk")
		for _, page := range []int{0, -1} {
			s, e := d.Read(page)
			is(t, s, e, "", api.ErrNil, "Read", "no disk")
		}
		if w, e := works.Open(d); w != nil || e != api.ErrNil {
			t.Errorf("Open of no disk: %v, error %d", w, e)
		}
	}
}

// Rule 5: what is done with a copy does nothing to the disk.
func TestCopiesHaveNoEffect(t *testing.T) {
	d := newDisk(t, 5)
	writes(t, d, 0, "a")
	isError(t, d.Write(0, "b"), api.OK, "Write")
	copied := *d
	copied.Crash(nil)
	isPage(t, d, 0, "b")
	isError(t, copied.Sync(), api.ErrNil, "Sync of a copy")
	d.Crash(nil)
	isPage(t, d, 0, "a")
	w := open(t, d)
	other := *w
	if _, e := other.Do("vat ada 0 2"); e != api.ErrNil {
		t.Errorf("Do of a copy: error %d", e)
	}
	isJournal(t, w, nil)
	isPage(t, d, 0, "")
}

// P10.2, P10.3, P10.4, P10.5
func TestWorksThatNothingOpened(t *testing.T) {
	copied := *newWorks(t, "vat ada 0 2")
	for _, w := range []*works.Works{nil, {}, new(works.Works), &copied} {
		for _, line := range []string{"vat bob 0 2", "drop ada", "idle", "", "x", "\x00"} {
			reply, e := w.Do(line)
			is(t, reply, e, "", api.ErrNil, "Do", line)
			reply, e = w.Ask(line)
			is(t, reply, e, "", api.ErrNil, "Ask", line)
		}
		isError(t, w.Commit(), api.ErrNil, "Commit of no works")
		if journal := w.Journal(); len(journal) != 0 {
			t.Errorf("Journal of no works: %q", journal)
		}
		if state := w.State(); state != "" {
			t.Errorf("State of no works: %q", state)
		}
	}
}

// isForm checks that a line has ErrForm as a change, or as a question, if and only if
// it is none.
func isForm(t *testing.T, w *works.Works, line string) {
	t.Helper()
	reply, e := w.Do(line)
	if (e == api.ErrForm) == hasForm(line, changeForms) || e != api.OK && reply != "" {
		t.Errorf("Do(%q): %q, error %d", line, reply, e)
	}
	reply, e = w.Ask(line)
	if (e == api.ErrForm) == hasForm(line, questionForms) || e != api.OK && reply != "" {
		t.Errorf("Ask(%q): %q, error %d", line, reply, e)
	}
}

var wellFormed = []string{
	"vat ada 0 2", "grower eva 4 5", "pack kit 5 3 1", "pack kit 5", "pack kit 1 1 1 1 1 1 1 1 1 1", "grid 2 0 1 2", "crate 1 1", "drop ada",
	"stir 5", "idle", "rest", "sum eva", "box kit", "core kit 1", "near 0 -1", "crates", "brine 2 10", "label 11", "root 2 7", "lift -1 5 2", "shape 5 1 1",
}

// P10.3: each byte at each place, or put in, or taken away.
func TestFormsByBytes(t *testing.T) {
	for _, line := range wellFormed {
		w := newWorks(t)
		for i := range len(line) + 1 {
			for b := range 256 {
				isForm(t, w, line[:i]+string([]byte{byte(b)})+line[i:])
				if i < len(line) {
					isForm(t, w, line[:i]+string([]byte{byte(b)})+line[i+1:])
				}
			}
			if i < len(line) {
				isForm(t, w, line[:i]+line[i+1:])
			}
			isForm(t, w, line[:i])
			isForm(t, w, line[i:])
			w = newWorks(t)
		}
	}
}

// P10.3: each word replaced, put in, or taken away.
func TestFormsByWords(t *testing.T) {
	others := []string{
		"", " ", "0", "-0", "00", "01", "-01", "1", "-1", "+1", "--1", "-", "1-", "999999", "-999999", "1000000", "-1000000", "0999999", "1e3", "1.0", "0x1", "1_0", "99999999999999999999",
		"a", "z", "abcdefgh", "abcdefghi", "Ada", "adA", "ada1", "a_a", "a-a", "é", "aé", "\xe9", "\u0661", "１", "vat", "idle", "\t", "a\tb", "a\n", "\n", "\x00", "\x7f", "\x1f", "~", "{", "`", "/", ":",
	}
	for _, line := range wellFormed {
		words := strings.Split(line, " ")
		w := newWorks(t)
		for i := range len(words) + 1 {
			for _, other := range others {
				isForm(t, w, strings.Join(slices.Insert(slices.Clone(words), i, other), " "))
				if i < len(words) {
					replaced := slices.Clone(words)
					replaced[i] = other
					isForm(t, w, strings.Join(replaced, " "))
				}
			}
			if i < len(words) {
				isForm(t, w, strings.Join(slices.Delete(slices.Clone(words), i, i+1), " "))
			}
			w = newWorks(t)
		}
	}
}

// P10.3: lines have at most 60 bytes.
func TestLongLines(t *testing.T) {
	w := newWorks(t)
	long := "pack kit 111111 111111 111111 111111 111111 111111 111111"
	for _, end := range []string{" 1", " 11", " 111", " 1111"} {
		want := api.ErrArg
		if len(long+end) > 60 {
			want = api.ErrForm
		}
		refuses(t, w, long+end, want)
	}
	for _, size := range []int{61, 100, 1 << 20} {
		for _, s := range []string{"x", " ", "1", "idle ", "\n"} {
			refuses(t, w, strings.Repeat(s, size), api.ErrForm)
			refusesQuestion(t, w, strings.Repeat(s, size), api.ErrForm)
			refusesQuestion(t, w, "idle"+strings.Repeat(" ", size), api.ErrForm)
		}
	}
	answers(t, w, "stir 999999", "stir")
	answers(t, w, "label 999999", newLabel())
}

// newLabel returns the label of 999999, by the greatest golden number each time.
func newLabel() string {
	fibonacci := []int{0, 1}
	for fibonacci[len(fibonacci)-1] <= 999_999 {
		fibonacci = append(fibonacci, fibonacci[len(fibonacci)-1]+fibonacci[len(fibonacci)-2])
	}
	var indices []int
	n := 999_999
	for i := len(fibonacci) - 1; i >= 2; i-- {
		if fibonacci[i] <= n {
			indices = append(indices, i)
			n -= fibonacci[i]
		}
	}
	return line("label", indices...)
}

// P10.3: each function takes its own lines alone.
func TestChangesAndQuestionsApart(t *testing.T) {
	w := newWorks(t, "vat ada 0 2", "grower eva 4 5", "pack kit 5 3 1", "grid 2 0 1 2")
	for _, line := range wellFormed {
		if hasForm(line, changeForms) {
			refusesQuestion(t, w, line, api.ErrForm)
		} else {
			refuses(t, w, line, api.ErrForm)
			if _, e := w.Ask(line); e != api.OK {
				t.Errorf("Ask(%q): error %d", line, e)
			}
		}
	}
}

// Rule 4: Crash leaves its argument as it is, and a journal that was returned is not
// the works' own.
func TestNoSharing(t *testing.T) {
	d := newDisk(t, 9)
	w := open(t, d)
	does(t, w, "vat ada 0 2", "vat bob 1 4")
	keep := []int{5, 1, 0, -3}
	d.Crash(keep)
	if !slices.Equal(keep, []int{5, 1, 0, -3}) {
		t.Errorf("Crash has changed its argument: %v", keep)
	}
	journal := w.Journal()
	journal[0] = "spoilt"
	_ = append(journal[:1], "spoilt")
	isJournal(t, w, []string{"vat ada 0 2", "vat bob 1 4"})
	journal = w.Journal()
	does(t, w, "drop ada")
	if !slices.Equal(journal, []string{"vat ada 0 2", "vat bob 1 4"}) {
		t.Errorf("a Journal that was returned has changed: %q", journal)
	}
}

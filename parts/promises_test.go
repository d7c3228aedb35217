package parts_test

import (
	"slices"
	"testing"

	"gherkin/api"
	"gherkin/parts"
)

// P2.9
func TestConjugatesTurnTheDiagram(t *testing.T) {
	for _, l := range upTo(most) {
		c := mustList(t, parts.Conjugate, l)
		if back := mustList(t, parts.Conjugate, c); !slices.Equal(back, l) {
			t.Errorf("%v: twice conjugate is %v", l, back)
		}
		if a, b := mustNumber(t, parts.Square, l), mustNumber(t, parts.Square, c); a != b {
			t.Errorf("%v: Square %d, of the conjugate %d", l, a, b)
		}
		if a, b := mustNumber(t, parts.Rank, l), mustNumber(t, parts.Rank, c); a != -b {
			t.Errorf("%v: Rank %d, of the conjugate %d", l, a, b)
		}
		rows, columns := mustHooks(t, l), mustHooks(t, c)
		for i := range l {
			for j := range l[i] {
				if rows[i][j] != columns[j][i] {
					t.Errorf("%v: Hooks %v, of the conjugate %v", l, rows, columns)
				}
			}
		}
	}
}

// P2.10
func TestFranklinGoesBack(t *testing.T) {
	count := 0
	for _, l := range having(upTo(most), notEmpty, apart(1)) {
		there, e := parts.Franklin(l)
		if e == api.ErrState {
			continue
		}
		count++
		if d := len(there) - len(l); e != api.OK || d != 1 && d != -1 || sum(there) != sum(l) {
			t.Errorf("Franklin(%v): %v, error %d", l, there, e)
		} else if back := mustList(t, parts.Franklin, there); !slices.Equal(back, l) {
			t.Errorf("Franklin(%v): %v, and back: %v", l, there, back)
		}
	}
	if count < 1000 {
		t.Errorf("only %d moves were looked at", count)
	}
}

// P2.10
func TestPentagonalNumbers(t *testing.T) {
	want := make([]int, 101)
	for k := range 9 {
		sign := 1 - 2*(k%2)
		for _, n := range []int{k * (3*k - 1) / 2, k * (3*k + 1) / 2} {
			if n <= 100 {
				want[n] = sign
			}
		}
	}
	for n, x := range want {
		if got, e := parts.Pentagonal(n); got != x || e != api.OK {
			t.Errorf("Pentagonal(%d): %d, error %d, not %d", n, got, e, x)
		}
	}
}

// P2.11
func TestGlaisherGoesBack(t *testing.T) {
	for _, l := range having(upTo(most), each(isOdd)) {
		there := mustList(t, parts.Glaisher, l)
		if back := mustList(t, parts.Odds, there); !slices.Equal(back, l) {
			t.Errorf("Glaisher(%v): %v, and back: %v", l, there, back)
		}
	}
	for _, l := range having(upTo(most), apart(1)) {
		there := mustList(t, parts.Odds, l)
		if back := mustList(t, parts.Glaisher, there); !slices.Equal(back, l) {
			t.Errorf("Odds(%v): %v, and back: %v", l, there, back)
		}
	}
}

// P2.11
func TestKindsAreEqualByTwos(t *testing.T) {
	for n := range 101 {
		for kind := 0; kind < 6; kind += 2 {
			if a, b := mustKinds(t, n, kind), mustKinds(t, n, kind+1); a != b {
				t.Errorf("Kinds(%d, ..): %d for %d, but %d for %d", n, a, kind, b, kind+1)
			}
		}
	}
}

// P2.12
func TestRanksAndCranksSpreadEvenly(t *testing.T) {
	for _, c := range []struct {
		name     string
		f        number
		m, first int
	}{
		{"Rank", parts.Rank, 5, 4}, {"Crank", parts.Crank, 5, 4},
		{"Crank", parts.Crank, 7, 5}, {"Crank", parts.Crank, 11, 6},
	} {
		for n := c.first; n <= most; n += c.m {
			counts := make([]int, c.m)
			for _, l := range tables()[n] {
				counts[(mustNumber(t, c.f, l)%c.m+c.m)%c.m]++
			}
			if slices.Min(counts) != slices.Max(counts) || counts[0] == 0 {
				t.Errorf("%s of the partitions of %d modulo %d: %v", c.name, n, c.m, counts)
			}
		}
	}
}

// P2.13
func TestFillingsAreTheFactorialByTheHooks(t *testing.T) {
	factorial := 1
	for n := 0; n <= 20; n++ {
		if n > 0 {
			factorial *= n
		}
		squares := 0
		for _, l := range tables()[n] {
			product := 1
			for _, row := range mustHooks(t, l) {
				for _, hook := range row {
					product *= hook
				}
			}
			count := mustNumber(t, parts.Fillings, l)
			if count*product != factorial {
				t.Errorf("%v: %d fillings, hooks with the product %d", l, count, product)
			}
			squares += count * count
		}
		if squares != factorial {
			t.Errorf("the squares for %d sum to %d, not %d", n, squares, factorial)
		}
	}
}

// P2.14
func TestCoresAreLeft(t *testing.T) {
	for _, l := range upTo(most) {
		c := mustList(t, parts.Conjugate, l)
		rows := mustHooks(t, l)
		for p := 1; p <= 10; p++ {
			core := mustCore(t, l, p)
			if again := mustCore(t, core, p); !slices.Equal(again, core) {
				t.Errorf("Core(%v, %d): %v", core, p, again)
			}
			divisible := 0
			for _, row := range rows {
				divisible += len(row) - len(slices.DeleteFunc(slices.Clone(row), func(hook int) bool { return hook%p == 0 }))
			}
			if sum(l)-sum(core) != p*divisible {
				t.Errorf("Core(%v, %d): %v, but %d hooks are divisible", l, p, core, divisible)
			}
			for _, row := range mustHooks(t, core) {
				if slices.Contains(row, p) {
					t.Errorf("Core(%v, %d): %v has a hook %d", l, p, core, p)
				}
			}
			if turned, want := mustList(t, parts.Conjugate, core), mustCore(t, c, p); !slices.Equal(turned, want) {
				t.Errorf("Core(%v, %d): %v, not %v", c, p, want, turned)
			}
		}
	}
}

// P2.15
func TestCountIsTheSumOverPentagonalNumbers(t *testing.T) {
	for n := 1; n <= 400; n++ {
		want := 0 // may wrap around on the way
		for k := -20; k <= 20; k++ {
			before := n - k*(3*k-1)/2
			if k == 0 || before < 0 {
				continue
			}
			if k%2 == 0 {
				want -= mustCount(t, before)
			} else {
				want += mustCount(t, before)
			}
		}
		if count := mustCount(t, n); count != want {
			t.Errorf("Count(%d): %d, not %d", n, count, want)
		}
	}
}

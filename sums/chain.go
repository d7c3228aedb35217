package sums

import "iter"

// The kinds of steps.
const (
	takeRest = iota
	halve
	exchange
)

// validSymbol reports whether a symbol (a / n) is one as the chapter has it.
func validSymbol(a, n int) bool {
	return within(maxSymbol, a, n) && n >= 1 && n%2 == 1
}

// chain yields the steps that reduce the symbol (a / n).
func chain(a, n int) iter.Seq[Step] {
	return func(yield func(Step) bool) {
		for s := before(a, n); !s.isLast(); {
			s = s.next()
			if !yield(s) {
				return
			}
		}
	}
}

// before returns how it is before the first step of a chain.
func before(a, n int) Step { return Step{A: a, N: n, Sign: 1} }

func (s Step) isLast() bool { return s.A == 0 || s.N == 1 }

func (s Step) next() Step {
	switch {
	case s.A < 0 || s.A >= s.N:
		return Step{Kind: takeRest, A: (s.A%s.N + s.N) % s.N, N: s.N, Sign: s.Sign}
	case s.A%2 == 0:
		return Step{Kind: halve, A: s.A / 2, N: s.N, Sign: s.Sign * signOfTwo(s.N)}
	}
	return Step{Kind: exchange, A: s.N, N: s.A, Sign: s.Sign * signOfExchange(s.A, s.N)}
}

// signOfTwo returns the symbol (2 / n).
func signOfTwo(n int) int {
	if n%8 == 3 || n%8 == 5 {
		return -1
	}
	return 1
}

// signOfExchange returns by what (a / n) and (n / a) differ.
func signOfExchange(a, n int) int {
	if a%4 == 3 && n%4 == 3 {
		return -1
	}
	return 1
}

// symbol returns what the chain shows at its end.
func symbol(a, n int) int {
	last := before(a, n)
	for s := range chain(a, n) {
		last = s
	}
	if last.N > 1 {
		return 0
	}
	return last.Sign
}

// isChain reports whether l is the chain for a and n.
func isChain(a, n int, l []Step) bool {
	at := 0
	for s := range chain(a, n) {
		if at == len(l) || l[at] != s {
			return false
		}
		at++
	}
	return at == len(l)
}

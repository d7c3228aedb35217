package covers

// atZero returns the system with these moduli and all residues 0.
func atZero(m []int) system {
	var l system
	for _, modulus := range m {
		l = append(l, [2]int{0, modulus})
	}
	return l
}

func validModuli(m []int) bool {
	if len(m) > maxModuli {
		return false
	}
	for _, modulus := range m {
		if modulus < 1 || modulus > maxChosen {
			return false
		}
	}
	return atZero(m).valid()
}

// first returns the first system with the moduli m, the residues compared from
// the front, of which each beginning is possible, or nil if there is none. What
// is possible must remain so when all residues are moved alike.
func first(m []int, possible func(l system) bool) system {
	var extend func(l system) system
	extend = func(l system) system {
		if len(l) == len(m) {
			return l
		}
		modulus := m[len(l)]
		// Moved by a multiple of its whole l stays as it is, while the next
		// residue moves by any multiple of this factor: so it is below that in
		// the first system.
		for a := range gcd(l.whole(), modulus) {
			// l is cut at its end, so that each longer system is a new one.
			longer := append(l[:len(l):len(l)], [2]int{a, modulus})
			if !possible(longer) {
				continue
			}
			if found := extend(longer); found != nil {
				return found
			}
		}
		return nil
	}
	return extend(nil)
}

// coverable returns whether the days that a beginning with the first moduli
// leaves are few enough for pairs with the other moduli; none, if it has all.
func coverable(m []int) func(l system) bool {
	days := atZero(m).whole()
	return func(l system) bool {
		left := days - l.covered(days)
		for _, modulus := range m[len(l):] {
			left -= days / modulus
		}
		return left <= 0
	}
}

// apart reports whether the last pair covers no day with one before it.
func apart(l system) bool {
	last := len(l) - 1
	for _, pair := range l[:last] {
		if (pair[0]-l[last][0])%gcd(pair[1], l[last][1]) == 0 {
			return false
		}
	}
	return true
}

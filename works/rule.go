package works

import (
	"slices"
	"strings"

	"gherkin/api"
)

const (
	longestLine   = 60
	longestName   = 8
	longestNumber = 6
)

// The words that a form asks for.
const (
	aName   = 'v'
	aNumber = 'n'
	aSigned = 'z' // a number that may be below 0
)

// An entry is what a line says after its first word.
type entry struct {
	name    string
	numbers []int
}

// A rule tells what lines with its first word look like, and what answers them. The
// reply to a line is the first word again, and then the words of the answer.
type rule struct {
	word   string
	form   string // a letter for each further word
	more   int    // how many numbers may come after those
	answer func(entry) ([]string, api.Errno)
}

// follow answers a line by the rule for its first word.
func follow(rules []rule, line string) (string, api.Errno) {
	words, ok := split(line)
	if !ok {
		return "", api.ErrForm
	}
	i := slices.IndexFunc(rules, func(r rule) bool { return r.word == words[0] })
	if i < 0 {
		return "", api.ErrForm
	}
	said, ok := rules[i].read(words[1:])
	if !ok {
		return "", api.ErrForm
	}
	answer, e := rules[i].answer(said)
	if e != api.OK {
		return "", e
	}
	return sentence(words[:1], answer), api.OK
}

// split returns the words of a line.
func split(line string) ([]string, bool) {
	if len(line) > longestLine {
		return nil, false
	}
	for i := range len(line) {
		if line[i] < 32 || line[i] > 126 {
			return nil, false
		}
	}
	words := strings.Split(line, " ")
	// A blank at an end, or beside another one, makes an empty word, and so does an
	// empty line.
	return words, !slices.Contains(words, "")
}

// read returns what the words say, if they have the rule's form.
func (r rule) read(words []string) (entry, bool) {
	var said entry
	if len(words) < len(r.form) || len(words) > len(r.form)+r.more {
		return said, false
	}
	form := r.form + strings.Repeat(string(aNumber), len(words)-len(r.form))
	for i, kind := range form {
		if kind == aName {
			if !isName(words[i]) {
				return said, false
			}
			said.name = words[i]
			continue
		}
		n, ok := number(words[i], kind == aSigned)
		if !ok {
			return said, false
		}
		said.numbers = append(said.numbers, n)
	}
	return said, true
}

func isName(word string) bool {
	for _, letter := range word {
		if letter < 'a' || letter > 'z' {
			return false
		}
	}
	return len(word) >= 1 && len(word) <= longestName
}

// number returns the number that the word is, if it is one.
func number(word string, signed bool) (int, bool) {
	digits := word
	sign := 1
	if signed && strings.HasPrefix(word, "-") {
		digits = word[1:]
		sign = -1
	}
	if len(digits) < 1 || len(digits) > longestNumber || digits[0] == '0' && word != "0" {
		return 0, false
	}
	n := 0
	for _, digit := range digits {
		if digit < '0' || digit > '9' {
			return 0, false
		}
		n = 10*n + int(digit-'0')
	}
	return sign * n, true
}

// sentence joins the words of all lists.
func sentence(lists ...[]string) string { return strings.Join(slices.Concat(lists...), " ") }

package console

import (
	"slices"
	"strconv"
	"strings"

	"strata/api"
)

// mostDigits is how many a number may have.
const mostDigits = 18

// numberOf reads a word that stands for a number; false, if it is not of that kind.
func numberOf(kind, word string) (int, bool) {
	switch kind {
	case "NUM":
		n, right := integer(word)
		return n, right && n >= 0
	case "INT":
		return integer(word)
	case "BIT":
		n, right := integer(word)
		return n, right && (n == 0 || n == 1)
	case "OP":
		n := slices.Index(operators(), word)
		return n, n >= 0
	}
	return 0, false
}

// integer reads a number as strconv.Itoa writes one.
func integer(word string) (int, bool) {
	if len(strings.TrimPrefix(word, "-")) > mostDigits {
		return 0, false
	}
	n, err := strconv.Atoi(word)
	return n, err == nil && strconv.Itoa(n) == word
}

// operators are their names, each at the place of its number.
func operators() []string {
	return []string{"false", "nor", "less", "nota", "diff", "notb", "xor", "nand", "and", "iff", "b", "imp", "a", "rev", "or", "true"}
}

// literal reads a variable with a truth.
func literal(word string) (api.Lit, bool) {
	variable, truth, _ := strings.Cut(word, "=")
	n, right := numberOf("NUM", variable)
	bit, too := numberOf("BIT", truth)
	return api.Lit{Level: n, Value: bit == 1}, right && too
}

// truths reads a 0 or a 1 for each variable.
func truths(word string) ([]bool, bool) {
	if word == noBits {
		return nil, true
	}
	bits := make([]bool, 0, len(word))
	for i := range len(word) {
		if word[i] != '0' && word[i] != '1' {
			return nil, false
		}
		bits = append(bits, word[i] == '1')
	}
	return bits, word != ""
}

// isName tells whether a word may be the name of a set.
func isName(word string) bool {
	for i := range len(word) {
		if word[i] < 'a' || word[i] > 'z' {
			return false
		}
	}
	return word != "" && len(word) <= api.MaxName
}

// isPlain tells whether a text has none of the bytes that only a formula and a property may have.
func isPlain(text string) bool {
	for i := range len(text) {
		if text[i] < 32 || text[i] > 126 {
			return false
		}
	}
	return true
}

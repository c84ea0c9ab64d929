package circuit

import "strata/api"

// none is no place.
const none = -1

// mostName is the length of the longest name.
const mostName = 32

// kinds say what a line of each kind has: its first word, its greatest Op, and how many of A, B and C.
var kinds = [...]struct {
	word string
	op   int
	uses int
}{
	api.GaInput: {"input", 0, 0},
	api.GaGate:  {"gate", api.OpTrue, 2},
	api.GaLatch: {"latch", 1, 1},
	api.GaMux:   {"mux", 0, 3},
}

// operators are the words of a gate's Op, by its number.
var operators = [...]string{"zero", "nor", "less", "nota", "diff", "notb", "xor", "nand", "and", "iff", "b", "imp", "a", "rev", "or", "one"}

// used are those of a line's A, B and C that its kind has.
func used(g api.Gate) []int { return []int{g.A, g.B, g.C}[:kinds[g.Kind].uses] }

// unused are the others.
func unused(g api.Gate) []int { return []int{g.A, g.B, g.C}[kinds[g.Kind].uses:] }

// leans are the places of the lines on which a line leans. (A latch has its value whatever its A is worth.)
func leans(g api.Gate) []int {
	if g.Kind == api.GaLatch {
		return nil
	}
	return used(g)
}

// isName tells whether a word may be a name.
func isName(word string) bool {
	if word == "" || len(word) > mostName {
		return false
	}
	for i := range len(word) {
		if b := word[i]; !beginsName(b) && (i == 0 || !goesOn(b)) {
			return false
		}
	}
	return true
}

func beginsName(b byte) bool { return 'a' <= b && b <= 'z' || 'A' <= b && b <= 'Z' || b == '_' }

// goesOn tells whether a byte that begins no name may stand further on in one.
func goesOn(b byte) bool { return '0' <= b && b <= '9' || b == '.' }

// within tells whether a circuit has no more of each than there may be.
func within(c api.Circuit) bool {
	return len(c.Gates) <= api.MaxGates && len(c.Outs) <= api.MaxGates
}

// named tells whether a circuit has a name, and each of its lines one of its own.
func named(c api.Circuit) bool {
	places := map[string]int{}
	for place, g := range c.Gates {
		if !isName(g.Name) {
			return false
		}
		places[g.Name] = place
	}
	return isName(c.Name) && len(places) == len(c.Gates)
}

// placed tells whether each line has what its kind asks for and nothing else, and each out is a line.
func placed(c api.Circuit) bool {
	for _, g := range c.Gates {
		if !fits(g, len(c.Gates)) {
			return false
		}
	}
	return areBelow(len(c.Gates), c.Outs)
}

// fits tells whether a line's fields are those of its kind, in a circuit of so many lines.
func fits(g api.Gate, lines int) bool {
	if g.Kind < api.GaInput || g.Kind > api.GaMux {
		return false
	}
	return g.Op >= 0 && g.Op <= kinds[g.Kind].op && areBelow(lines, used(g)) && areBelow(1, unused(g))
}

// areBelow tells whether all are numbers from 0 to ahead of end.
func areBelow(end int, all []int) bool {
	for _, n := range all {
		if n < 0 || n >= end {
			return false
		}
	}
	return true
}

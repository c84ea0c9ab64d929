package console

import (
	"strings"

	"strata/api"
)

const (
	blank   = " "
	comment = "#"
	colon   = ":"
	many    = ".." // ends a kind of which there may be any number
)

// isIdle tells whether a line does nothing.
func isIdle(text string) bool {
	text = strings.TrimLeft(text, blank)
	return text == "" || strings.HasPrefix(text, comment)
}

// line is a line that is of its command's form.
type line struct {
	command
	nums  []int // numbers, handles, bits and operators, as they stand
	lits  []api.Lit
	names []string // of sets, whose handles are among the numbers
	bits  []bool
	text  string // a word of any form, or the rest of the line
}

// read makes a line of a text that has words; false, if it is none.
func read(text string) (line, bool) {
	word, left := cut(strings.Trim(text, blank))
	c, known := find(word)
	if !known {
		return line{}, false
	}
	l := line{command: c}
	for _, kind := range strings.Fields(c.form) {
		rest, right := l.take(kind, left)
		if !right {
			return line{}, false
		}
		left = rest
	}
	return l, left == ""
}

// cut parts a text into its first word and what is left; neither has blanks at its ends, as the text has none.
func cut(text string) (string, string) {
	word, left, _ := strings.Cut(text, blank)
	return word, strings.TrimLeft(left, blank)
}

// take reads what is of a kind in front of what is left of a line, and tells what is left then; false, if it is not there.
func (l *line) take(kind, left string) (string, bool) {
	if kind == "TEXT" || kind == "REST" {
		l.text = left
		return "", left != "" && (kind == "TEXT" || isPlain(left))
	}
	if one, list := strings.CutSuffix(kind, many); list {
		return l.takeList(one, left)
	}
	word, rest := cut(left)
	return rest, l.takeWord(kind, word)
}

// takeList reads words of a kind up to a colon, or the line's end.
func (l *line) takeList(kind, left string) (string, bool) {
	for left != "" {
		word, rest := cut(left)
		if word == colon {
			break
		}
		if !l.takeWord(kind, word) {
			return "", false
		}
		left = rest
	}
	return left, true
}

// takeWord reads a word; false, if it is not of that kind. One that is missing is empty, and of no kind.
func (l *line) takeWord(kind, word string) bool {
	right := false
	switch kind {
	case "LIT":
		var lit api.Lit
		lit, right = literal(word)
		l.lits = append(l.lits, lit)
	case "SET":
		name, handle, _ := strings.Cut(word, "=")
		l.names = append(l.names, name)
		right = isName(name) && l.takeWord("NUM", handle)
	case "BITS":
		l.bits, right = truths(word)
	case "WORD":
		l.text = word
		right = word != "" && isPlain(word)
	case colon:
		right = word == colon
	default:
		var n int
		n, right = numberOf(kind, word)
		l.nums = append(l.nums, n)
	}
	return right
}

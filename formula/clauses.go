package formula

import (
	"strconv"
	"strings"

	"strata/api"
)

// mostNumber is the greatest number that clauses' texts may have.
const mostNumber = 1<<31 - 1

// headWords is how many words the head has.
const headWords = 4

// word is a word of a text of clauses.
type word struct {
	text string
	at   int // its first byte
}

// clauses is what has been read of a text of clauses.
type clauses struct {
	api.Cnf
	begun bool // the head has been read
	many  int  // clauses that it asks for
}

// readClauses reads a text line by line.
func readClauses(text string) (api.Cnf, api.Fault) {
	var c clauses
	for at := 0; at < len(text); {
		line, _, _ := strings.Cut(text[at:], "\n")
		if code, from := c.line(words(line, at)); code != api.OK {
			return api.Cnf{}, api.Fault{Code: code, At: place(text, from)}
		}
		at += len(line) + 1
	}
	if !c.begun || len(c.Ends) < c.many {
		return api.Cnf{}, api.Fault{Code: api.ErrHead, At: place(text, len(text))}
	}
	return c.Cnf, api.Fault{}
}

// words are those of a line that begins at a byte of its text; a remark has none.
func words(line string, at int) []word {
	rest := line[len(run(line, isBlank)):]
	if strings.HasPrefix(rest, "c") {
		return nil
	}
	var list []word
	for rest != "" {
		text := run(rest, isNoBlank)
		list = append(list, word{text, at + len(line) - len(rest)})
		rest = rest[len(text):]
		rest = rest[len(run(rest, isBlank)):]
	}
	return list
}

func isNoBlank(r rune) bool { return !isBlank(r) }

// line reads the words of a line. What it refuses it tells with the byte where that is.
func (c *clauses) line(list []word) (api.Errno, int) {
	if len(list) == 0 {
		return api.OK, 0
	}
	if !c.begun {
		c.begun = true
		return c.head(list)
	}
	for _, w := range list {
		if code := c.literal(w.text); code != api.OK {
			return code, w.at
		}
	}
	return api.OK, 0
}

// head reads the words of the head's line.
func (c *clauses) head(list []word) (api.Errno, int) {
	for i, w := range list {
		if code := c.headWord(i, w.text); code != api.OK {
			return code, w.at
		}
	}
	if len(list) < headWords {
		last := list[len(list)-1]
		return api.ErrHead, last.at + len(last.text)
	}
	return api.OK, 0
}

// headWord reads the word that stands at a place of the head's line.
func (c *clauses) headWord(i int, text string) api.Errno {
	var code api.Errno
	switch {
	case i == 0 && text == "p", i == 1 && text == "cnf":
	case i == 2:
		c.Vars, code = amount(text, api.MaxVars)
	case i == 3:
		c.many, code = amount(text, api.MaxClause)
	default:
		code = api.ErrHead
	}
	return code
}

// amount reads how many there are of what there may be so many of.
func amount(text string, most int) (int, api.Errno) {
	n, right := number(text, mostNumber)
	switch {
	case !right:
		return 0, api.ErrNumber
	case n > most:
		return 0, api.ErrMany
	}
	return n, api.OK
}

// literal reads a literal, or the 0 that ends a clause.
func (c *clauses) literal(text string) api.Errno {
	if len(c.Ends) == c.many {
		return api.ErrHead
	}
	digits, minus := strings.CutPrefix(text, "-")
	n, right := number(digits, mostNumber)
	switch {
	case !right || minus && n == 0:
		return api.ErrNumber
	case n > c.Vars:
		return api.ErrLevel
	case n == 0:
		c.Ends = append(c.Ends, len(c.Lits))
		return api.OK
	case len(c.Lits) == api.MaxLits: // a text of MaxText bytes has not so many; the limits may change
		return api.ErrMany
	case minus:
		n = -n
	}
	c.Lits = append(c.Lits, n)
	return api.OK
}

// writeClauses is the text of clauses.
func writeClauses(c api.Cnf) string {
	var w writer
	w.put("p cnf ", strconv.Itoa(c.Vars), " ", strconv.Itoa(len(c.Ends)), "\n")
	from := 0
	for _, end := range c.Ends {
		for _, lit := range c.Lits[from:end] {
			w.put(strconv.Itoa(lit), " ")
		}
		w.put("0\n")
		from = end
	}
	return w.text.String()
}

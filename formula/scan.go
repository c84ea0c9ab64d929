package formula

import (
	"strings"
	"unicode/utf8"

	"strata/api"
)

// Tokens that make a node have the node's Op; an exists or forall stands for those that its variables make. These are the others.
const (
	opening = api.FoIte + 1 + iota
	closing
	comma
	colon
	end  // of the text
	none // what is no token
)

// token is a piece of a formula's text.
type token struct {
	kind int
	n    int       // of a constant or a variable
	code api.Errno // of none: why
	at   int       // its first byte
}

// scanner cuts a text into tokens.
type scanner struct {
	text string
	at   int // what stands ahead of it has been cut
}

// next cuts off the next token.
func (s *scanner) next() token {
	s.at += blanks(s.text[s.at:])
	t, length := first(s.text[s.at:])
	t.at = s.at
	s.at += length
	return t
}

// blanks is the length of the blanks and remarks in front of a text.
func blanks(text string) int {
	remark := false
	for i, r := range text {
		switch {
		case r == '\n':
			remark = false
		case r == '#':
			remark = true
		case !remark && !isBlank(r):
			return i
		}
	}
	return len(text)
}

// first is the token in front of a text, and its length.
func first(text string) (token, int) {
	if text == "" {
		return token{kind: end}, 0
	}
	r, length := utf8.DecodeRuneInString(text)
	switch {
	case isLetter(r):
		word := run(text, isLetterOrDigit)
		return ofWord(word), len(word)
	case isDigit(r):
		digits := run(text, isDigit)
		return ofNumber(api.FoConst, digits, 1), len(digits)
	case strings.HasPrefix(text, "<->"):
		return token{kind: api.FoIff}, len("<->")
	case strings.HasPrefix(text, "->"):
		return token{kind: api.FoImp}, len("->")
	}
	return ofRune(r), length
}

// isBlank tells whether a rune parts words within a line.
func isBlank(r rune) bool { return r == ' ' || r == '\t' || r == '\r' }

func isLetter(r rune) bool { return 'a' <= r && r <= 'z' || 'A' <= r && r <= 'Z' }

func isDigit(r rune) bool { return '0' <= r && r <= '9' }

func isLetterOrDigit(r rune) bool { return isLetter(r) || isDigit(r) }

// run is the longest front of a text that is of such runes alone.
func run(text string, such func(rune) bool) string {
	for i, r := range text {
		if !such(r) {
			return text[:i]
		}
	}
	return text
}

func ofWord(word string) token {
	switch word {
	case "true":
		return token{kind: api.FoConst, n: 1}
	case "false":
		return token{kind: api.FoConst, n: 0}
	case "exists":
		return token{kind: api.FoExists}
	case "forall":
		return token{kind: api.FoForall}
	case "ite":
		return token{kind: api.FoIte}
	}
	digits, found := strings.CutPrefix(word, "x")
	if !found || run(digits, isLetter) != "" {
		return token{kind: none, code: api.ErrToken}
	}
	return ofNumber(api.FoVar, digits, api.MaxVars-1)
}

func ofNumber(kind int, digits string, most int) token {
	n, right := number(digits, most)
	if !right {
		return token{kind: none, code: api.ErrNumber}
	}
	return token{kind: kind, n: n}
}

// number is what digits say, if they are digits without a needless zero in front, and say no more than most.
func number(digits string, most int) (int, bool) {
	if digits == "" || digits[0] == '0' && len(digits) > 1 {
		return 0, false
	}
	n := 0
	for _, r := range digits {
		if !isDigit(r) {
			return 0, false
		}
		n = 10*n + int(r-'0')
		if n > most { // ahead of the next digit: an int has an end too
			return 0, false
		}
	}
	return n, true
}

// ofRune is the token of a sign of one rune. (A byte that begins no rune is read as one that is no sign.)
func ofRune(r rune) token {
	switch r {
	case '!', '~', '¬':
		return token{kind: api.FoNot}
	case '&', '∧':
		return token{kind: api.FoAnd}
	case '|', '∨':
		return token{kind: api.FoOr}
	case '^', '⊕':
		return token{kind: api.FoXor}
	case '→':
		return token{kind: api.FoImp}
	case '↔':
		return token{kind: api.FoIff}
	case '∃':
		return token{kind: api.FoExists}
	case '∀':
		return token{kind: api.FoForall}
	case '⊤':
		return token{kind: api.FoConst, n: 1}
	case '⊥':
		return token{kind: api.FoConst, n: 0}
	case '(':
		return token{kind: opening}
	case ')':
		return token{kind: closing}
	case ',':
		return token{kind: comma}
	case ':':
		return token{kind: colon}
	}
	return token{kind: none, code: api.ErrByte}
}

// place is the line and the column of a byte of a text.
func place(text string, at int) api.Pos {
	ahead := text[:at]
	return api.Pos{Line: 1 + strings.Count(ahead, "\n"), Col: at - strings.LastIndex(ahead, "\n")}
}

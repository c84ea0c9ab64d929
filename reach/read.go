package reach

import (
	"strings"

	"strata/api"
)

// reader reads a property by its grammar, a method a rule. Behind a fault it looks at no token any more, and what its methods answer is nothing.
type reader struct {
	text  string
	names map[string]int // by name: the place of its set
	word  string         // the token that is looked at; empty: the end, or what is no token
	at    int            // where it begins
	open  int            // prefixes, paths and brackets whose end has not been read
	met   int            // tokens that count
	fault api.Fault
}

// read makes the tree of a text.
func read(text string, names map[string]int) (tree, api.Fault) {
	if len(text) > api.MaxText {
		return nil, api.Fault{Code: api.ErrLong}
	}
	r := &reader{text: text, names: names}
	r.advance()
	t := r.property()
	if r.at < len(text) {
		r.refuse(api.ErrCtl)
	}
	if r.fault != (api.Fault{}) {
		return nil, r.fault
	}
	return t, api.Fault{}
}

// advance looks at the next token.
func (r *reader) advance() {
	if r.fault != (api.Fault{}) {
		return
	}
	r.at += len(r.word)
	rest := strings.TrimLeft(r.text[r.at:], " \t\n\r")
	r.at = len(r.text) - len(rest)
	r.word = token(rest)
}

// refuse tells the fault of the token that is looked at, if it is the first one.
func (r *reader) refuse(code api.Errno) {
	if r.fault != (api.Fault{}) {
		return
	}
	ahead := r.text[:r.at]
	r.fault = api.Fault{Code: code, At: api.Pos{Line: 1 + strings.Count(ahead, "\n"), Col: r.at - strings.LastIndex(ahead, "\n")}}
	r.word = ""
}

// pass goes over a token that must stand there.
func (r *reader) pass(word string) {
	if r.word != word {
		r.refuse(api.ErrCtl)
	}
	r.advance()
}

// count goes over a token that counts.
func (r *reader) count() {
	r.met++
	if r.met > api.MaxTree {
		r.refuse(api.ErrMany)
	}
	r.advance()
}

// enter opens what the token that is looked at opens.
func (r *reader) enter() {
	r.open++
	if r.open > api.MaxDepth {
		r.refuse(api.ErrDeep)
	}
}

func (r *reader) leave() { r.open-- }

func (r *reader) property() tree { return r.leftward("<->", api.OpIff, r.imp) }

func (r *reader) or() tree { return r.leftward("|", api.OpOr, r.and) }

func (r *reader) and() tree { return r.leftward("&", api.OpAnd, r.unary) }

// leftward reads operands with a sign between them that leans to the left.
func (r *reader) leftward(sign string, op int, operand func() tree) tree {
	t := operand()
	for r.word == sign {
		r.count()
		t = joined{op, t, operand()}
	}
	return t
}

// imp reads the sign that leans to the right: what is joined first is what was read last.
func (r *reader) imp() tree {
	parts := []tree{r.or()}
	for r.word == "->" {
		r.count()
		parts = append(parts, r.or())
	}
	last := len(parts) - 1
	t := parts[last]
	for last--; last >= 0; last-- {
		t = joined{api.OpImp, parts[last], t}
	}
	return t
}

func (r *reader) unary() tree {
	word := r.word
	switch word {
	case "!", "EX", "EF", "EG", "AX", "AF", "AG":
		r.enter()
		r.count()
		operand := r.unary()
		r.leave()
		return prefixed{word, operand}
	case "E", "A":
		return r.path(word == "A")
	case "(":
		r.enter()
		r.pass("(")
		t := r.property()
		r.leave()
		r.pass(")")
		return t
	case "true", "false":
		r.count()
		return constant{word == "true"}
	}
	place, there := r.names[word]
	if !there {
		r.refuse(api.ErrCtl)
		return nil
	}
	r.count()
	return named{place}
}

func (r *reader) path(all bool) tree {
	r.enter()
	r.count()
	r.pass("[")
	first := r.property()
	r.pass("U")
	second := r.property()
	r.leave()
	r.pass("]")
	return path{all, first, second}
}

// token is the token in front of a text; empty, if none begins there.
func token(text string) string {
	if word := word(text); word != "" {
		return word
	}
	for _, sign := range [...]string{"<->", "->", "!", "&", "|", "(", ")", "[", "]"} {
		if strings.HasPrefix(text, sign) {
			return sign
		}
	}
	return ""
}

// word is the word in front of a text; empty, if none begins there.
func word(text string) string {
	for i := range len(text) {
		if !isLetter(text[i]) && (i == 0 || !isDigit(text[i])) {
			return text[:i]
		}
	}
	return text
}

func isLetter(b byte) bool { return 'a' <= b && b <= 'z' || 'A' <= b && b <= 'Z' || b == '_' }

func isDigit(b byte) bool { return '0' <= b && b <= '9' }

// isName tells whether a text may stand for a set.
func isName(text string) bool {
	switch text {
	case "", "true", "false", "EX", "EF", "EG", "AX", "AF", "AG", "E", "A", "U":
		return false
	}
	return word(text) == text
}

// places tells where each name stands; false, if one is none or stands twice.
func places(names []string) (map[string]int, bool) {
	byName := make(map[string]int, len(names))
	for place, name := range names {
		if _, twice := byName[name]; twice || !isName(name) {
			return nil, false
		}
		byName[name] = place
	}
	return byName, true
}

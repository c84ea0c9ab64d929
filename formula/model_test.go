package formula_test

import (
	"regexp"
	"slices"
	"strconv"
	"strings"

	"strata/api"
)

// piece is a token of the model: its one spelling, and where it begins; or a fault.
type piece struct {
	text string // "" at the text's end
	at   int
	code api.Errno // not OK: it is no token
}

// spellings are the tokens that can be written otherwise, and how.
var spellings = map[string][]string{
	"!":      {"!", "~", "¬"},
	"&":      {"&", "∧"},
	"|":      {"|", "∨"},
	"^":      {"^", "⊕"},
	"->":     {"->", "→"},
	"<->":    {"<->", "↔"},
	"exists": {"exists", "∃"},
	"forall": {"forall", "∀"},
	"true":   {"true", "1", "⊤"},
	"false":  {"false", "0", "⊥"},
}

// oneSpelling is how the model writes a token.
func oneSpelling(text string) string {
	for one, all := range spellings {
		if slices.Contains(all, text) {
			return one
		}
	}
	return text
}

var (
	gap    = regexp.MustCompile(`^([ \t\n\r]|#[^\n]*)*`)
	word   = regexp.MustCompile(`^[a-zA-Z][a-zA-Z0-9]*`)
	digits = regexp.MustCompile(`^[0-9]+`)
	sign   = regexp.MustCompile(`^(<->|->|[!~&|^(),:¬∧∨⊕→↔∃∀⊤⊥])`)
	name   = regexp.MustCompile(`^x(0|[1-9][0-9]{0,4})$`)
	noName = regexp.MustCompile(`^x([0-9].*)?$`)
)

// cut is a text's tokens, by the chapter's words; what is no token is the last.
func cut(text string) []piece {
	var out []piece
	at := 0
	for {
		at += len(gap.FindString(text[at:]))
		p, length := front(text[at:])
		p.at = at
		out = append(out, p)
		if p.text == "" {
			return out
		}
		at += length
	}
}

// front is the token that a text begins with.
func front(text string) (piece, int) {
	if text == "" {
		return piece{}, 0
	}
	if w := word.FindString(text); w != "" {
		return frontWord(w), len(w)
	}
	if d := digits.FindString(text); d != "" {
		if d == "0" || d == "1" {
			return piece{text: oneSpelling(d)}, 1
		}
		return piece{code: api.ErrNumber}, 0
	}
	if s := sign.FindString(text); s != "" {
		return piece{text: oneSpelling(s)}, len(s)
	}
	return piece{code: api.ErrByte}, 0
}

func frontWord(w string) piece {
	if slices.Contains([]string{"true", "false", "exists", "forall", "ite"}, w) {
		return piece{text: w}
	}
	if n, err := strconv.Atoi(w[1:]); name.MatchString(w) && err == nil && n <= 65535 {
		return piece{text: w}
	}
	if noName.MatchString(w) {
		return piece{code: api.ErrNumber}
	}
	return piece{code: api.ErrToken}
}

func isName(text string) bool { return name.MatchString(text) }

func isSignOfTwo(text string) bool {
	return slices.Contains([]string{"&", "|", "^", "->", "<->"}, text)
}

// walk goes over tokens one by one, and knows at each which ones may stand there: a machine with a stack of what is open.
type walk struct {
	wants string // "operand", "operator", "variable", "separator", "bracket"
	open  []string
	most  int // the greatest number that was open
	nodes int
	deep  int // how many may be open
	many  int // how many nodes there may be
}

func newWalk() *walk {
	return &walk{wants: "operand", deep: 64, many: 65536}
}

// step takes a token in; it answers why not, if it may not come.
func (w *walk) step(p piece) api.Errno {
	if p.code != api.OK {
		return p.code
	}
	opens, makes := "", false
	switch t := p.text; {
	case w.wants == "bracket" && t == "(":
		w.wants = "operand"
	case w.wants == "variable" && isName(t):
		opens, makes, w.wants = "quantifier", true, "separator"
	case w.wants == "separator" && t == ",":
		w.wants = "variable"
	case w.wants == "separator" && t == ":":
		w.wants = "operand"
	case w.wants == "operand" && (t == "exists" || t == "forall"):
		w.wants = "variable"
	case w.wants == "operand" && t == "!":
		opens, makes = "!", true
	case w.wants == "operand" && t == "(":
		opens = "("
	case w.wants == "operand" && t == "ite":
		opens, makes, w.wants = "ite1", true, "bracket"
	case w.wants == "operand" && (t == "true" || t == "false" || isName(t)):
		makes = true
		w.whole()
	case w.wants == "operator" && isSignOfTwo(t):
		makes, w.wants = true, "operand"
	case w.wants == "operator" && (t == ")" || t == "," || t == ""):
		return w.close(t)
	default:
		return api.ErrToken
	}
	return w.count(opens, makes)
}

// whole: an operand has been read, and the ! ahead of it with it.
func (w *walk) whole() {
	w.drop("!")
	w.wants = "operator"
}

// drop takes off the stack what is of such a kind.
func (w *walk) drop(kinds ...string) {
	for len(w.open) > 0 && slices.Contains(kinds, w.open[len(w.open)-1]) {
		w.open = w.open[:len(w.open)-1]
	}
}

// close ends a formula within brackets, within ite, or the whole.
func (w *walk) close(text string) api.Errno {
	w.drop("quantifier", "!")
	top := "the text"
	if len(w.open) > 0 {
		top = w.open[len(w.open)-1]
	}
	switch top + " " + text {
	case "the text ":
		w.wants = "nothing"
	case "ite1 ,", "ite2 ,":
		w.open[len(w.open)-1] = map[string]string{"ite1": "ite2", "ite2": "ite3"}[top]
		w.wants = "operand"
	case "( )", "ite3 )":
		w.open = w.open[:len(w.open)-1]
		w.whole()
	default:
		return api.ErrToken
	}
	return api.OK
}

func (w *walk) count(opens string, makes bool) api.Errno {
	if opens != "" {
		w.open = append(w.open, opens)
		w.most = max(w.most, len(w.open))
	}
	if makes {
		w.nodes++
	}
	switch {
	case opens != "" && len(w.open) > w.deep:
		return api.ErrDeep
	case makes && w.nodes > w.many:
		return api.ErrMany
	}
	return api.OK
}

// placeOf is the line and column of a byte, found byte by byte.
func placeOf(text string, at int) api.Pos {
	p := api.Pos{Line: 1, Col: 1}
	for i := range at {
		p.Col++
		if text[i] == 10 {
			p = api.Pos{Line: p.Line + 1, Col: 1}
		}
	}
	return p
}

// modelFault is the first fault of a text.
func modelFault(text string) api.Fault {
	w := newWalk()
	for _, p := range cut(text) {
		if code := w.step(p); code != api.OK {
			return api.Fault{Code: code, At: placeOf(text, p.at)}
		}
	}
	return api.Fault{}
}

// modelOpen is how many brackets and prefixes are open at most in a text without a fault.
func modelOpen(text string) int {
	w := newWalk()
	w.deep, w.many = 1<<30, 1<<30
	for _, p := range cut(text) {
		if code := w.step(p); code != api.OK {
			return -1
		}
	}
	return w.most
}

// modelList is the formula of a text without a fault, whatever its limits: it is split where it is joined last.
func modelList(text string) []api.Fnode {
	var words []string
	for _, p := range cut(text) {
		words = append(words, p.text)
	}
	return split(words[:len(words)-1])
}

// joins are the signs of two operands, those that bind least first.
var joins = []struct {
	sign      string
	op        int
	rightmost bool // which of several joins last
}{{"<->", api.FoIff, true}, {"->", api.FoImp, false}, {"|", api.FoOr, true}, {"^", api.FoXor, true}, {"&", api.FoAnd, true}}

func split(words []string) []api.Fnode {
	for _, j := range joins {
		found := places(words, j.sign)
		if len(found) == 0 {
			continue
		}
		i := found[0]
		if j.rightmost {
			i = found[len(found)-1]
		}
		return slices.Concat(split(words[:i]), split(words[i+1:]), []api.Fnode{{Op: j.op}})
	}
	return splitUnary(words)
}

// places are those of a sign that stands in no brackets, and behind no quantifier outside of brackets.
func places(words []string, sign string) []int {
	var out []int
	depth := 0
	for i, w := range words {
		switch {
		case w == "(":
			depth++
		case w == ")":
			depth--
		case depth == 0 && (w == "exists" || w == "forall"):
			return out
		case depth == 0 && w == sign:
			out = append(out, i)
		}
	}
	return out
}

func splitUnary(words []string) []api.Fnode {
	switch words[0] {
	case "!":
		return append(split(words[1:]), api.Fnode{Op: api.FoNot})
	case "exists", "forall":
		return splitQuantifier(words)
	case "ite":
		inner := words[2 : len(words)-1]
		commas := ownCommas(inner)
		a, b, c := inner[:commas[0]], inner[commas[0]+1:commas[1]], inner[commas[1]+1:]
		return slices.Concat(split(a), split(b), split(c), []api.Fnode{{Op: api.FoIte}})
	case "(":
		return split(words[1 : len(words)-1])
	case "true":
		return []api.Fnode{{Op: api.FoConst, N: 1}}
	case "false":
		return []api.Fnode{{Op: api.FoConst}}
	}
	return []api.Fnode{{Op: api.FoVar, N: numberOf(words[0])}}
}

func splitQuantifier(words []string) []api.Fnode {
	op := map[string]int{"exists": api.FoExists, "forall": api.FoForall}[words[0]]
	colon := slices.Index(words, ":")
	out := split(words[colon+1:])
	for i := colon - 1; i > 0; i -= 2 {
		out = append(out, api.Fnode{Op: op, N: numberOf(words[i])})
	}
	return out
}

// ownCommas are those that part the operands of an ite, not those of a quantifier's variables.
func ownCommas(words []string) []int {
	var out []int
	depth, variables := 0, false
	for i, w := range words {
		switch {
		case w == "(":
			depth++
		case w == ")":
			depth--
		case w == "exists" || w == "forall":
			variables = true
		case w == ":":
			variables = false
		case w == "," && depth == 0 && !variables:
			out = append(out, i)
		}
	}
	return out
}

func numberOf(name string) int {
	n, _ := strconv.Atoi(name[1:])
	return n
}

// full is a text of a list that is one tree, with brackets around all operands.
func full(f []api.Fnode) string {
	var stack []string
	for _, n := range f {
		many := operands(n.Op)
		under := slices.Clone(stack[len(stack)-many:])
		stack = append(stack[:len(stack)-many], fullNode(n, under))
	}
	return stack[0]
}

func operands(op int) int { return []int{0, 0, 0, 1, 1, 1, 2, 2, 2, 2, 2, 3}[op] }

func fullNode(n api.Fnode, under []string) string {
	v := "x" + strconv.Itoa(n.N)
	for i := range under {
		under[i] = "(" + under[i] + ")"
	}
	switch n.Op {
	case api.FoConst:
		return strconv.FormatBool(n.N == 1)
	case api.FoVar:
		return v
	case api.FoNot:
		return "!" + under[0]
	case api.FoExists:
		return "exists " + v + ": " + under[0]
	case api.FoForall:
		return "forall " + v + ": " + under[0]
	case api.FoIte:
		return "ite(" + strings.Join(under, ", ") + ")"
	}
	for _, j := range joins {
		if j.op == n.Op {
			return under[0] + " " + j.sign + " " + under[1]
		}
	}
	return ""
}

// pairs are the brackets of a text, each opening one with the one that closes it, in the order of the text; those of ite aside.
func pairs(text string) [][2]int {
	var out [][2]int
	var open []int
	for i, c := range text {
		switch c {
		case '(':
			open = append(open, i)
		case ')':
			from := open[len(open)-1]
			open = open[:len(open)-1]
			if !strings.HasSuffix(text[:from], "ite") {
				out = append(out, [2]int{from, i})
			}
		}
	}
	slices.SortFunc(out, func(a, b [2]int) int { return a[0] - b[0] })
	return out
}

// without is a text without a pair of brackets.
func without(text string, pair [2]int) string {
	return text[:pair[0]] + text[pair[0]+1:pair[1]] + text[pair[1]+1:]
}

var sameKind = regexp.MustCompile(`(exists|forall) ([x0-9, ]*): (exists|forall) `)

// modelPrint is the one text of a tree: that with all brackets, of which all go that can go, the outermost first.
func modelPrint(f []api.Fnode) string {
	text := full(f)
	for i := 0; i < len(pairs(text)); {
		if less := without(text, pairs(text)[i]); modelOpen(less) >= 0 && slices.Equal(modelList(less), f) {
			text = less
		} else {
			i++
		}
	}
	return commas(text)
}

// commas writes quantifiers of one kind that stand within one another behind one word.
func commas(text string) string {
	for at := 0; ; {
		m := sameKind.FindStringSubmatchIndex(text[at:])
		if m == nil {
			return text
		}
		if text[at+m[2]:at+m[3]] != text[at+m[6]:at+m[7]] {
			at += m[6]
			continue
		}
		text = text[:at+m[5]] + ", " + text[at+m[1]:]
	}
}

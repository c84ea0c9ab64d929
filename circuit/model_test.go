package circuit_test

import (
	"cmp"
	"regexp"
	"slices"
	"strings"

	"strata/api"
)

// model is a second reader: it goes over the whole text whatever is wrong with it, notes all faults, and tells the first of them.
type model struct {
	seen, outs int  // lines with words, outputs
	ended      bool // by a line ahead
	lines      []modelLine
	defined    map[string]int // by name: the place of the first line that has it
	faults     []finding
}

// modelLine is a line of the text: its words with their columns.
type modelLine struct {
	number int
	words  []string
	cols   []int
}

// finding is a fault: of a step, in a line, the so-manieth in it.
type finding struct {
	step, line, word int
	fault            api.Fault
}

// modelForms say which words follow a first word: n a name, N one that is defined, A one that is used, O an operator, F a first value.
var modelForms = map[string]string{"circuit": "n", "input": "N", "gate": "NOAA", "mux": "NAAA", "latch": "NFA", "output": "A", "end": ""}

var modelKinds = map[string]int{"input": api.GaInput, "gate": api.GaGate, "mux": api.GaMux, "latch": api.GaLatch}

// modelLetters say which form a word has that stands for a letter.
var modelLetters = map[byte]*regexp.Regexp{
	'n': modelName, 'N': modelName, 'A': modelName,
	'O': regexp.MustCompile(`^(zero|nor|less|nota|diff|notb|xor|nand|and|iff|b|imp|a|rev|or|one)$`),
	'F': regexp.MustCompile(`^[01]$`),
}

var (
	modelName = regexp.MustCompile(`^[A-Za-z_][A-Za-z0-9_.]{0,31}$`)
	modelWord = regexp.MustCompile(`[^ \t\r]+`)
)

var modelOps = strings.Fields("zero nor less nota diff notb xor nand and iff b imp a rev or one")

func modelParse(text string) (api.Circuit, api.Fault) {
	if len(text) > api.MaxText {
		return api.Circuit{}, api.Fault{Code: api.ErrLong}
	}
	m := &model{defined: map[string]int{}}
	all := strings.Split(text, "\n")
	for i, raw := range all {
		m.line(cut(i+1, raw))
	}
	if !m.ended {
		m.faults = append(m.faults, finding{2, len(all) + 1, 0, at(api.ErrLine, len(all), len(all[len(all)-1])+1)})
	}
	m.undefined()
	if len(m.faults) == 0 {
		m.circles()
	}
	if len(m.faults) > 0 {
		return api.Circuit{}, slices.MinFunc(m.faults, func(a, b finding) int {
			return cmp.Or(a.step-b.step, a.line-b.line, a.word-b.word)
		}).fault
	}
	return m.circuit(), api.Fault{}
}

func cut(number int, raw string) modelLine {
	l := modelLine{number: number}
	raw, _, _ = strings.Cut(raw, "#")
	for _, at := range modelWord.FindAllStringIndex(raw, -1) {
		l.words, l.cols = append(l.words, raw[at[0]:at[1]]), append(l.cols, at[0]+1)
	}
	return l
}

func (m *model) note(step int, code api.Errno, line, word, col int) {
	m.faults = append(m.faults, finding{step, line, word, at(code, line, col)})
}

// line notes the faults of step 2.
func (m *model) line(l modelLine) {
	if len(l.words) == 0 {
		return
	}
	m.seen++
	first := l.words[0]
	form, known := modelForms[first]
	if !known || m.ended || (first == "circuit") != (m.seen == 1) {
		m.note(2, api.ErrLine, l.number, 0, l.cols[0])
	}
	if modelKinds[first] > 0 && len(m.defined) == api.MaxGates || first == "output" && m.outs == api.MaxGates {
		m.note(2, api.ErrMany, l.number, 0, l.cols[0])
	}
	for i := range max(len(form), len(l.words)-1) {
		m.word(l, form, i+1)
	}
	m.lines = append(m.lines, l)
	m.ended = m.ended || first == "end"
	if first == "output" {
		m.outs++
	}
	if _, twice := m.defined[nameOf(l)]; !twice && nameOf(l) != "" {
		m.defined[nameOf(l)] = len(m.defined)
	}
}

// nameOf is the name that a line defines.
func nameOf(l modelLine) string {
	if modelKinds[l.words[0]] > 0 && len(l.words) > 1 {
		return l.words[1]
	}
	return ""
}

func (m *model) word(l modelLine, form string, i int) {
	switch {
	case i >= len(l.words):
		last := len(l.words) - 1
		m.note(2, api.ErrLine, l.number, i, l.cols[last]+len(l.words[last]))
	case i > len(form) || !modelLetters[form[i-1]].MatchString(l.words[i]):
		m.note(2, api.ErrLine, l.number, i, l.cols[i])
	case form[i-1] == 'N':
		if _, twice := m.defined[l.words[i]]; twice {
			m.note(2, api.ErrTwice, l.number, i, l.cols[i])
		}
	}
}

// undefined notes the faults of step 3.
func (m *model) undefined() {
	for _, l := range m.lines {
		for i, letter := range modelForms[l.words[0]] {
			if letter != 'A' || i+1 >= len(l.words) {
				continue
			}
			if _, known := m.defined[l.words[i+1]]; !known {
				m.note(3, api.ErrUndef, l.number, i, l.cols[i+1])
			}
		}
	}
}

// circles notes the faults of step 4, of a text that has none else.
func (m *model) circles() {
	leads := modelLeads(m.circuit().Gates)
	for _, l := range m.lines {
		if modelKinds[l.words[0]] == 0 {
			continue
		}
		place := m.defined[l.words[1]]
		if leads[place][place] {
			m.note(4, api.ErrCircle, l.number, 1, l.cols[1])
		}
	}
}

func (m *model) circuit() api.Circuit {
	c := api.Circuit{Name: m.lines[0].words[1]}
	for _, l := range m.lines {
		g := api.Gate{Kind: modelKinds[l.words[0]]}
		var uses [3]int
		n := 0
		for i, letter := range modelForms[l.words[0]] {
			switch w := l.words[i+1]; letter {
			case 'N':
				g.Name = w
			case 'O':
				g.Op = slices.Index(modelOps, w)
			case 'F':
				g.Op = int(w[0] - '0')
			case 'A':
				uses[n] = m.defined[w]
				n++
			}
		}
		g.A, g.B, g.C = uses[0], uses[1], uses[2]
		switch {
		case l.words[0] == "output":
			c.Outs = append(c.Outs, uses[0])
		case g.Kind > 0:
			c.Gates = append(c.Gates, g)
		}
	}
	return c
}

// modelLeans are the lines on which a line leans.
func modelLeans(g api.Gate) []int {
	switch g.Kind {
	case api.GaGate:
		return []int{g.A, g.B}
	case api.GaMux:
		return []int{g.A, g.B, g.C}
	}
	return nil
}

// modelLeads: from which lines one comes to which, by one step or several (Warshall).
func modelLeads(gates []api.Gate) [][]bool {
	leads := make([][]bool, len(gates))
	for i, g := range gates {
		leads[i] = make([]bool, len(gates))
		for _, j := range modelLeans(g) {
			leads[i][j] = true
		}
	}
	for k := range gates {
		for i := range gates {
			for j := range gates {
				leads[i][j] = leads[i][j] || leads[i][k] && leads[k][j]
			}
		}
	}
	return leads
}

// modelValue is the value of a line, told by the values of those on which it leans.
func modelValue(c api.Circuit, points map[int]bool, line int) bool {
	g := c.Gates[line]
	of := func(place int) bool { return modelValue(c, points, place) }
	switch g.Kind {
	case api.GaGate:
		return []bool{g.Op&1 > 0, g.Op&2 > 0, g.Op&4 > 0, g.Op&8 > 0}[map[[2]bool]int{{false, true}: 1, {true, false}: 2, {true, true}: 3}[[2]bool{of(g.A), of(g.B)}]]
	case api.GaMux:
		return of(g.A) && of(g.B) || !of(g.A) && of(g.C)
	}
	return points[line]
}

// modelStep is what goes out, and the latches' next values.
func modelStep(c api.Circuit, inputs, latches []bool) (outs, next []bool) {
	points := map[int]bool{}
	for i, place := range ofKind(c, api.GaInput) {
		points[place] = inputs[i]
	}
	for i, place := range ofKind(c, api.GaLatch) {
		points[place] = latches[i]
	}
	for _, out := range c.Outs {
		outs = append(outs, modelValue(c, points, out))
	}
	for _, place := range ofKind(c, api.GaLatch) {
		next = append(next, modelValue(c, points, c.Gates[place].A))
	}
	return outs, next
}

// ofKind are the places of the lines of a kind.
func ofKind(c api.Circuit, kind int) []int {
	var out []int
	for place, g := range c.Gates {
		if g.Kind == kind {
			out = append(out, place)
		}
	}
	return out
}

package portable_test

import (
	"regexp"
	"slices"
	"sort"
	"strconv"
	"strings"

	"strata/api"
)

// The form of a text, as an expression.
const (
	number  = `(0|[1-9][0-9]*)`
	pointer = `(F|T|` + number + `:` + number + `)`
)

var (
	formOf = regexp.MustCompile(`^strata 1\nlevels ` + number + `\nnodes ` + number + `\n(` + pointer + ` ` + pointer + ` ` + pointer + `\n)*root ` + pointer + `\n$`)
	digits = regexp.MustCompile(`[0-9]+`)
)

// isOfForm tells whether a text is of the form, whatever its numbers are.
func isOfForm(text string) bool {
	for _, d := range digits.FindAllString(text, -1) {
		if _, err := strconv.ParseInt(d, 10, 64); err != nil {
			return false
		}
	}
	return formOf.MatchString(text)
}

// isBeginning tells whether something may stand behind a text so that both are of the form. (One of these ends does where any does: they go on from each place at which a text of the form can be cut.)
func isBeginning(text string) bool {
	for _, whole := range []string{"strata 1\nlevels 0\nnodes 0\nroot 0:0\n", "0:0 0:0 0:0\nroot 0:0\n"} {
		for i := range len(whole) + 1 {
			if isOfForm(text + whole[i:]) {
				return true
			}
		}
	}
	return false
}

// at is the fault at a byte of a text.
func at(text string, i int) api.Fault {
	lines := strings.Split(text[:i], "\n")
	return noText(len(lines), 1+len(lines[len(lines)-1]))
}

// byTheBytes is the first fault of a text in its bytes.
func byTheBytes(text string) api.Fault {
	if isOfForm(text) {
		return api.Fault{}
	}
	// What a beginning begins with is one too.
	long := sort.Search(len(text), func(n int) bool { return !isBeginning(text[:n+1]) })
	return at(text, long)
}

// item is a word of a text that is of the form.
type item struct {
	text string
	at   int
}

// node is the level and the id that it says; false: it is a leaf.
func (w item) node() ([2]int, bool) {
	level, id, found := strings.Cut(w.text, ":")
	l, _ := strconv.Atoi(level)
	i, _ := strconv.Atoi(id)
	return [2]int{l, i}, found
}

// rank is a pointer for comparing.
func (w item) rank() [3]int {
	p, is := w.node()
	if is {
		return [3]int{0, p[0], p[1]}
	}
	return [3]int{1, int(w.text[0])} // F is ahead of T
}

// comparePairs is the order of (LOW, HIGH).
func comparePairs(a, b []item) int {
	return slices.CompareFunc(a, b, func(v, w item) int {
		x, y := v.rank(), w.rank()
		return slices.Compare(x[:], y[:])
	})
}

// itemsOf are the words of each line.
func itemsOf(text string) [][]item {
	var out [][]item
	at := 0
	for _, line := range strings.Split(strings.TrimSuffix(text, "\n"), "\n") {
		var list []item
		for _, word := range strings.Split(line, " ") {
			list = append(list, item{word, at})
			at += len(word) + 1
		}
		out = append(out, list)
	}
	return out
}

// faultOf is the first fault of a text, by the chapter's words; where it is told in which of the three steps, 0 if there is none.
func faultOf(text string) (api.Fault, int) {
	if f := byTheBytes(text); f != (api.Fault{}) {
		return f, 1
	}
	lines := itemsOf(text)
	vars, _ := strconv.Atoi(lines[1][1].text)
	count, _ := strconv.Atoi(lines[2][1].text)
	body, root := lines[3:len(lines)-1], lines[len(lines)-1][1]
	if vars > 65536 {
		return at(text, lines[1][1].at), 2
	}
	if count != len(body) {
		return at(text, lines[2][1].at), 2
	}
	for i := range body {
		if w := byTheNumbers(vars, body[:i+1]); w >= 0 {
			return at(text, body[i][w].at), 2
		}
	}
	if _, is := root.node(); count == 0 && is || count > 0 && root.text != body[count-1][0].text {
		return at(text, root.at), 2
	}
	for _, line := range body {
		if line[0].text != root.text && !slices.ContainsFunc(body, func(l []item) bool { return l[1].text == line[0].text || l[2].text == line[0].text }) {
			return at(text, line[0].at), 3
		}
	}
	return api.Fault{}, 0
}

// byTheNumbers is the first wrong word of the last of these lines; -1: none.
func byTheNumbers(vars int, lines [][]item) int {
	line, above := lines[len(lines)-1], lines[:len(lines)-1]
	self, is := line[0].node()
	if !is || self[0] >= vars {
		return 0
	}
	if len(above) == 0 && self[1] != 0 {
		return 0
	}
	var last [2]int
	if len(above) > 0 {
		last, _ = above[len(above)-1][0].node()
		sameLevel := self[0] == last[0] && self[1] == last[1]+1
		lessLevel := self[0] < last[0] && self[1] == 0
		if !sameLevel && !lessLevel {
			return 0
		}
	}
	for w := 1; w < 3; w++ {
		p, is := line[w].node()
		stands := slices.ContainsFunc(above, func(l []item) bool { return l[0].text == line[w].text })
		if is && (!stands || p[0] <= self[0]) {
			return w
		}
	}
	if line[1].text == line[2].text {
		return 2
	}
	if len(above) > 0 && last[0] == self[0] {
		if comparePairs(above[len(above)-1][1:], line[1:]) >= 0 {
			return 2
		}
	}
	return -1
}

// recordsOf is the node file of a text without fault.
func recordsOf(text string) []api.Rec {
	point := func(w item) uint64 {
		p, is := w.node()
		if !is {
			return map[string]uint64{"F": 1 << 63, "T": 1<<63 + 1}[w.text]
		}
		return uint64(p[0])<<40 + uint64(p[1])
	}
	lines := itemsOf(text)
	var list []api.Rec
	for _, line := range lines[3 : len(lines)-1] {
		list = append(list, api.Rec{point(line[0]), point(line[1]), point(line[2])})
	}
	vars, _ := strconv.Atoi(lines[1][1].text)
	return append(list, api.Rec{api.Mark, uint64(vars), point(lines[len(lines)-1][1]), uint64(len(list))})
}

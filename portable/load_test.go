package portable_test

import (
	"slices"
	"strconv"
	"strings"
	"testing"

	"strata/api"
	"strata/bench"
	"strata/nodes"
	"strata/portable"
)

const (
	top  = "strata 1\n"
	head = top + "levels 3\n"
	good = head + "nodes 3\n2:0 F T\n1:0 2:0 T\n0:0 2:0 1:0\nroot 0:0\n"
)

// wrong is a text and the place of its fault.
type wrong struct {
	text      string
	line, col int
}

// areRefused fails the test unless each text is refused at its place, in that step of the chapter's.
func areRefused(t *testing.T, step int, list []wrong) {
	t.Helper()
	b := bench.Lie(t, 1)
	for _, c := range list {
		refuses(b, c.text, noText(c.line, c.col))
		if f, s := faultOf(c.text); f != noText(c.line, c.col) || s != step {
			t.Errorf("the model: %q: %v in step %d", c.text, f, s)
		}
	}
}

// TestByTheBytes: what is told of the bytes, in each part of a text. P16.2.
func TestByTheBytes(t *testing.T) {
	areRefused(t, 1, []wrong{
		{"strata 1", 1, 9}, {top, 2, 1}, {"strata  1\n", 1, 8}, {" strata 1\n", 1, 1}, {"Strata 1\n", 1, 1}, {"strata 11\n", 1, 9}, {"strata 1\r\n", 1, 9}, {"\n", 1, 1}, {"\xff", 1, 1}, {"\x00", 1, 1},
		{top + "levels", 2, 7}, {top + "levels ", 2, 8}, {top + "levels\n", 2, 7}, {top + "levels x\n", 2, 8}, {top + "levels -1\n", 2, 8}, {top + "levels +1\n", 2, 8}, {top + "levels 3 \n", 2, 9}, {top + "levels 3:0\n", 2, 9}, {top + "levels F\n", 2, 8}, {top + "levels 00\n", 2, 9}, {top + "levels 007\n", 2, 9}, {top + "nodes 0\n", 2, 1}, {head + "\n", 3, 1},
		{head + "levels 3\n", 3, 1}, {head + "nodes 3", 3, 8}, {head + "nodes 3\n", 4, 1}, {head + "nodes 03\n", 3, 8}, {head + "nodes \n", 3, 7}, {head + "root T\n", 3, 1},
		{head + "nodes 0\n\n", 4, 1}, {head + "nodes 0\n root T\n", 4, 1}, {head + "nodes 0\nroot  T\n", 4, 6}, {head + "nodes 0\nroot T \n", 4, 7}, {head + "nodes 0\nroot T\r\n", 4, 7}, {head + "nodes 0\nroot", 4, 5}, {head + "nodes 0\nroot\n", 4, 5}, {head + "nodes 0\nroot \n", 4, 6}, {head + "nodes 0\nroot f\n", 4, 6}, {head + "nodes 0\nroot T\nroot T\n", 5, 1}, {head + "nodes 0\nroot T\n\x00", 5, 1}, {head + "nodes 0\nroot 0\n", 4, 7}, {head + "nodes 0\nroot 0:\n", 4, 8}, {head + "nodes 0\nroot :0\n", 4, 6}, {head + "nodes 0\nroot 00:0\n", 4, 7}, {head + "nodes 0\nroot 0:00\n", 4, 9}, {head + "nodes 0\nroot TT\n", 4, 7}, {head + "nodes 0\nroot T F\n", 4, 7}, {head + "nodes 0\nrooot T\n", 4, 4}, {head + "nodes 0\nr", 4, 2},
		{head + "nodes 1\n2:0 F T T\n", 4, 8}, {head + "nodes 1\n2:0 F\n", 4, 6}, {head + "nodes 1\n2:0\n", 4, 4}, {head + "nodes 1\n2:0  F T\n", 4, 5}, {head + "nodes 1\n2:0 F  T\n", 4, 7}, {head + "nodes 1\n2:0\tF T\n", 4, 4}, {head + "nodes 1\n2:0 F T", 4, 8}, {head + "nodes 1\n2:0 F T\n", 5, 1}, {head + "nodes 1\n2 F T\n", 4, 2}, {head + "nodes 1\n2:0:0 F T\n", 4, 4}, {head + "nodes 1\n2:01 F T\n", 4, 4}, {head + "nodes 1\n02:0 F T\n", 4, 2}, {head + "nodes 1\n2:0 0F T\n", 4, 6}, {head + "nodes 1\n2:0 F 0x1\n", 4, 8}, {head + "nodes 1\n\xc3\xa9:0 F T\n", 4, 1}, {head + "nodes 1\n٢:0 F T\n", 4, 1},
		{good + "\n", 8, 1}, {good + good, 8, 1}, {good[:len(good)-1], 7, 9}, {good + " ", 8, 1},
	})
	loads(bench.Lie(t, 1), good, recordsOf(good))
}

// TestGreatNumbers: a number below 2^63 is one, and is told where it stands for too much; the digit that makes it more is told by itself. P16.2.
func TestGreatNumbers(t *testing.T) {
	const last, more, long = "9223372036854775807", "9223372036854775808", "10000000000000000000000"
	areRefused(t, 1, []wrong{
		{top + "levels " + more + "\n", 2, 8 + 18}, {top + "levels " + long + "\n", 2, 8 + 19}, {top + "levels " + last + "0\n", 2, 8 + 19}, {top + "levels 9999999999999999999\n", 2, 8 + 18},
		{head + "nodes " + more + "\n", 3, 7 + 18}, {head + "nodes 0\nroot " + more + ":0\n", 4, 6 + 18}, {head + "nodes 0\nroot 0:" + more + "\n", 4, 8 + 18},
		{head + "nodes 1\n" + more + ":0 F T\n", 4, 19}, {head + "nodes 1\n0:" + long + " F T\n", 4, 3 + 19}, {head + "nodes 1\n0:0 18446744073709551616:0 T\n", 4, 5 + 19}, {head + "nodes 1\n0:0 F 0:" + more + "\n", 4, 9 + 18},
	})
	areRefused(t, 2, []wrong{
		{top + "levels " + last + "\nnodes 0\nroot T\n", 2, 8}, {top + "levels 65537\nnodes 0\nroot T\n", 2, 8}, {top + "levels 65537\nnodes 1\nF F F\nroot 1:1\n", 2, 8},
		{head + "nodes " + last + "\nroot T\n", 3, 7}, {head + "nodes 0\nroot " + last + ":0\n", 4, 6}, {head + "nodes 0\nroot 0:" + last + "\n", 4, 6},
		{head + "nodes 1\n" + last + ":0 F T\nroot T\n", 4, 1}, {head + "nodes 1\n0:" + last + " F T\nroot T\n", 4, 1}, {head + "nodes 1\n0:0 " + last + ":0 T\nroot 0:0\n", 4, 5}, {head + "nodes 1\n0:0 F " + last + ":" + last + "\nroot 0:0\n", 4, 7},
		{head + "nodes 2\n2:0 F T\n0:0 2:" + last + " T\nroot 0:0\n", 5, 5}, {head + "nodes 2\n2:0 F T\n0:0 2:1099511627776 T\nroot 0:0\n", 5, 5}, {head + "nodes 2\n2:0 F T\n0:0 16777218:0 T\nroot 0:0\n", 5, 5},
		{head + "nodes 1\n0:1099511627776 F T\nroot 0:0\n", 4, 1}, {head + "nodes 1\n0:0 F T\nroot 16777216:0\n", 5, 6}, {head + "nodes 1\n0:0 F T\nroot 0:1099511627776\n", 5, 6},
	})
}

// TestByTheNumbers: each word that may be wrong, ahead of all that stands behind it. P16.2.
func TestByTheNumbers(t *testing.T) {
	areRefused(t, 2, []wrong{
		{top + "levels 65537\nnodes 7\nroot 1:1\n", 2, 8},
		{head + "nodes 2\n2:0 F T\nroot 2:0\n", 3, 7}, {head + "nodes 0\n2:0 F T\nroot 2:0\n", 3, 7}, {head + "nodes 1\nroot 9:9\n", 3, 7}, {head + "nodes 1\nF F F\nT T T\nroot T\n", 3, 7},
		// SELF
		{head + "nodes 1\nF F F\nroot T\n", 4, 1}, {head + "nodes 1\nT 9:9 F\nroot T\n", 4, 1}, {head + "nodes 1\n3:0 F T\nroot 3:0\n", 4, 1}, {head + "nodes 1\n2:1 9:9 F\nroot 2:1\n", 4, 1}, {head + "nodes 1\n0:1 F T\nroot 0:1\n", 4, 1}, {top + "levels 0\nnodes 1\n0:0 F T\nroot 0:0\n", 4, 1},
		{head + "nodes 2\n2:0 F T\n2:0 T F\nroot 2:0\n", 5, 1}, {head + "nodes 2\n2:0 F T\n2:2 T F\nroot 2:2\n", 5, 1}, {head + "nodes 2\n2:0 F T\n1:1 T F\nroot 1:1\n", 5, 1}, {head + "nodes 2\n1:0 F T\n2:0 T F\nroot 2:0\n", 5, 1}, {head + "nodes 2\n1:0 F T\n2:1 T F\nroot 2:1\n", 5, 1}, {head + "nodes 2\n2:0 F T\nF T F\nroot 2:0\n", 5, 1}, {head + "nodes 2\n2:0 F T\n3:0 T F\nroot 2:0\n", 5, 1}, {head + "nodes 2\n2:0 F T\n3:1 T F\nroot 2:0\n", 5, 1},
		{head + "nodes 3\n2:0 F T\n1:0 2:0 T\n2:1 T F\nroot 2:1\n", 6, 1},
		// LOW
		{head + "nodes 1\n2:0 2:0 T\nroot 2:0\n", 4, 5}, {head + "nodes 1\n1:0 2:0 2:0\nroot 1:0\n", 4, 5}, {head + "nodes 2\n2:0 F T\n1:0 2:1 2:9\nroot 1:0\n", 5, 5}, {head + "nodes 2\n2:0 F T\n2:1 2:0 T\nroot 2:1\n", 5, 5}, {head + "nodes 2\n2:0 F T\n1:0 1:0 2:0\nroot 1:0\n", 5, 5}, {head + "nodes 2\n2:0 F T\n1:0 0:0 2:0\nroot 1:0\n", 5, 5}, {head + "nodes 2\n2:0 F T\n1:0 3:0 2:0\nroot 1:0\n", 5, 5}, {head + "nodes 3\n2:0 F T\n1:0 F 2:0\n1:1 1:0 2:0\nroot 1:1\n", 6, 5},
		// HIGH
		{head + "nodes 1\n2:0 F 2:0\nroot 2:0\n", 4, 7}, {head + "nodes 2\n2:0 F T\n1:0 F 2:1\nroot 1:0\n", 5, 7}, {head + "nodes 2\n2:0 F T\n2:1 F 2:0\nroot 2:1\n", 5, 7}, {head + "nodes 1\n2:0 F F\nroot 2:0\n", 4, 7}, {head + "nodes 2\n2:0 F T\n1:0 2:0 2:0\nroot 1:0\n", 5, 9},
		{head + "nodes 2\n2:0 F T\n2:1 F T\nroot 2:1\n", 5, 7}, {head + "nodes 2\n2:0 T F\n2:1 F T\nroot 2:1\n", 5, 7}, {head + "nodes 3\n2:0 F T\n1:0 F T\n1:1 F 2:0\nroot 1:1\n", 6, 7}, {head + "nodes 3\n2:0 F T\n1:0 F T\n1:1 2:0 T\nroot 1:1\n", 6, 9}, {head + "nodes 4\n2:0 F T\n2:1 T F\n1:0 2:1 T\n1:1 2:0 T\nroot 1:1\n", 7, 9}, {head + "nodes 4\n2:0 F T\n2:1 T F\n1:0 F 2:1\n1:1 F 2:0\nroot 1:1\n", 7, 7},
		// P
		{head + "nodes 0\nroot 0:0\n", 4, 6}, {top + "levels 0\nnodes 0\nroot 0:0\n", 4, 6}, {head + "nodes 1\n2:0 F T\nroot F\n", 5, 6}, {head + "nodes 1\n2:0 F T\nroot 2:1\n", 5, 6}, {head + "nodes 1\n2:0 F T\nroot 1:0\n", 5, 6}, {head + "nodes 2\n2:0 F T\n1:0 F 2:0\nroot 2:0\n", 6, 6}, {head + "nodes 2\n2:0 F T\n1:0 F T\nroot T\n", 6, 6},
	})
	areRefused(t, 3, []wrong{
		{head + "nodes 2\n2:0 F T\n1:0 F T\nroot 1:0\n", 4, 1}, {head + "nodes 2\n2:0 F T\n2:1 T F\nroot 2:1\n", 4, 1}, {head + "nodes 3\n2:0 F T\n2:1 T F\n1:0 2:0 T\nroot 1:0\n", 5, 1}, {head + "nodes 3\n2:0 F T\n2:1 T F\n1:0 2:1 T\nroot 1:0\n", 4, 1}, {head + "nodes 3\n2:0 F T\n1:0 F T\n0:0 2:0 T\nroot 0:0\n", 5, 1}, {head + "nodes 3\n2:0 F T\n1:0 F T\n0:0 T F\nroot 0:0\n", 4, 1},
		{head + "nodes 3\n2:0 F T\n0:0 F 2:0\n0:1 T 2:0\nroot 0:1\n", 5, 1},
	})
	// As many levels as may be, all of them or few with nodes, is no fault.
	b := bench.Lie(t, 1)
	for _, text := range []string{
		top + "levels 65536\nnodes 1\n65535:0 F T\nroot 65535:0\n", top + "levels 65536\nnodes 1\n0:0 F T\nroot 0:0\n", top + "levels 65536\nnodes 0\nroot F\n", top + "levels 0\nnodes 0\nroot T\n",
	} {
		loads(b, text, recordsOf(text))
	}
}

// bend changes a text in one place.
func bend(r *bench.Dice, text string) string {
	const bytes = " \n:0123456789FTrotlevnds\x00\xff"
	i := r.Below(len(text) + 1)
	lines := strings.SplitAfter(text, "\n")
	words := itemsOf(text)
	w := words[r.Below(len(words))]
	from, other := w[r.Below(len(w))], words[r.Below(len(words))]
	switch r.Below(8) {
	case 0:
		return text[:i] + string(bytes[r.Below(len(bytes))]) + text[i:]
	case 1:
		return text[:i] + text[min(i+1, len(text)):]
	case 2:
		return text[:i] + string(bytes[r.Below(len(bytes))]) + text[min(i+1, len(text)):]
	case 3:
		return text[:i]
	case 4:
		j, k := r.Below(len(lines)), r.Below(len(lines))
		lines[j], lines[k] = lines[k], lines[j]
		return strings.Join(lines, "")
	case 5:
		j := r.Below(len(lines))
		return strings.Join(lines[:j], "") + strings.Join(lines[min(j+1, len(lines)):], "")
	case 6:
		if end := from.at + len(from.text); from.text != "" && '0' <= text[end-1] && text[end-1] <= '9' {
			return text[:end-1] + strconv.Itoa(r.Below(10)) + text[end:]
		}
	}
	to := other[r.Below(len(other))]
	return text[:from.at] + to.text + text[from.at+len(from.text):]
}

// anyLines is a text of the form whose pointers are hardly ever right.
func anyLines(r *bench.Dice) string {
	n := r.Below(4)
	point := func(least int) string {
		if r.Below(3) == 0 || least >= n {
			return []string{"F", "T"}[r.Below(2)]
		}
		return strconv.Itoa(least+r.Below(n-least+r.Below(2))) + ":" + strconv.Itoa(r.Below(2))
	}
	level, id, lines := n-1, 0, ""
	c := r.Below(5)
	for range c {
		if lines += strconv.Itoa(level) + ":" + strconv.Itoa(id) + " " + point(level+1) + " " + point(level+1) + "\n"; r.Below(3) == 0 {
			id++
		} else {
			level, id = max(level-1, 0), 0
		}
	}
	return top + "levels " + strconv.Itoa(n) + "\nnodes " + strconv.Itoa(c) + "\n" + lines + "root " + point(level) + "\n"
}

// looseLines is a text of lines that are right one by one; it may be that nothing goes to some of their nodes.
func looseLines(r *bench.Dice) string {
	n := 1 + r.Below(3)
	above := []item{{text: "F"}, {text: "T"}}
	self, lines, c := "", "", 0
	for level := n - 1; level >= 0; level-- {
		var pairs [][2]item
		for range 1 + r.Below(3) {
			if p := [2]item{above[r.Below(len(above))], above[r.Below(len(above))]}; p[0] != p[1] && !slices.Contains(pairs, p) {
				pairs = append(pairs, p)
			}
		}
		slices.SortFunc(pairs, func(a, b [2]item) int { return comparePairs(a[:], b[:]) })
		for id, p := range pairs {
			self = strconv.Itoa(level) + ":" + strconv.Itoa(id)
			lines += self + " " + p[0].text + " " + p[1].text + "\n"
			above = append(above, item{text: self})
			c++
		}
	}
	if c == 0 {
		self = "T"
	}
	return top + "levels " + strconv.Itoa(n) + "\nnodes " + strconv.Itoa(c) + "\n" + lines + "root " + self + "\n"
}

// isTold fails the test unless a text is answered as the model answers it; in which step it is refused.
func isTold(b bench.Bench, text string) int {
	b.Helper()
	fault, step := faultOf(text)
	if step > 0 {
		refuses(b, text, fault)
		return step
	}
	loads(b, text, recordsOf(text))
	return 0
}

// TestBentTexts: texts that are changed here and there, and lines of any pointers, against the model. P16.2, P16.6.
func TestBentTexts(t *testing.T) {
	t.Parallel()
	r := bench.Dice(10)
	b := bench.Lie(t, 2)
	var steps [4]int
	for range 1000 {
		n := 1 + r.Below(3)
		text := dumpOf(bench.Canon(n, r.Table(n)))
		for range 1 + r.Below(2) {
			text = bend(&r, text)
		}
		steps[isTold(b, text)]++
		steps[isTold(b, anyLines(&r))]++
		steps[isTold(b, looseLines(&r))]++
	}
	for step, times := range steps {
		if times < 50 {
			t.Errorf("step %d: %d times", step, times)
		}
	}
}

// TestCutTexts: each beginning of a text is refused at its end, and each with a byte behind it that does not go on there at that byte. P16.2, P16.6.
func TestCutTexts(t *testing.T) {
	r := bench.Dice(11)
	b := bench.Lie(t, 1)
	for range 5 {
		text := dumpOf(bench.Spread(bench.Canon(4, r.Table(4)), 200, []int{0, 9, 10, 199}))
		for i := range text {
			refuses(b, text[:i], at(text, i))
			refuses(b, text[:i]+"\x00", at(text, i))
			refuses(b, text[:i]+"?"+text[i:], at(text, i))
		}
		refuses(b, text+"\x00", at(text, len(text)))
	}
}

// TestWhatStandsBehind: a fault of the bytes that is not at the text's end stays, whatever is put behind it. P16.6.
func TestWhatStandsBehind(t *testing.T) {
	t.Parallel()
	r := bench.Dice(12)
	b := bench.Lie(t, 1)
	tried := 0
	for range 2000 {
		n := 1 + r.Below(3)
		text := bend(&r, dumpOf(bench.Canon(n, r.Table(n))))
		fault := portable.Load(b.Desk, text, "out")
		b.Disk().Delete("out")
		if fault.Code != api.ErrText || isOfForm(text) || fault == at(text, len(text)) {
			continue
		}
		tried++
		for _, more := range []string{"\n", "0", good, "\x00", strings.Repeat("F", 1000), text} {
			refuses(b, text+more, fault)
		}
		if tried%30 == 0 {
			refuses(b, text+strings.Repeat("\n", api.MaxText-len(text)), fault)
			refuses(b, text+strings.Repeat("\n", api.MaxText+1-len(text)), api.Fault{Code: api.ErrLong})
		}
	}
	if tried < 300 {
		t.Errorf("%d texts", tried)
	}
}

// long is a text of as many bytes as a text may have and so many more, of a chain of nodes; some of them go to two others, by which it has just that length.
func long(t *testing.T, more int) []api.Rec {
	t.Helper()
	const n = 54000
	list := chain(most, upTo(0, n), func(int) bool { return true })
	missing := api.MaxText + more - len(dumpOf(list))
	for i := range list {
		level := n - 1 - i
		deeper := bench.At(level+2, 0)
		longer := len(strconv.Itoa(level+2)) + len(":0") - len("F")
		if rest := missing - longer; level+2 < n && (rest == 0 || rest > 1) {
			list[i][1] = uint64(deeper)
			missing = rest
		}
	}
	if got := len(dumpOf(list)); got != api.MaxText+more {
		t.Fatalf("%d bytes, %d are missing", got, missing)
	}
	return list
}

// TestTheLongestText: a text of as many bytes as may be is read; one of a byte more is not. P16.2, P16.5.
func TestTheLongestText(t *testing.T) {
	for _, k := range []int{1, 2047} {
		list := long(t, 0)
		b := bench.Lie(t, k, bench.Files(list)...)
		b.Is("Check", nodes.Check(b.Desk, "f"), api.OK)
		text, e := portable.Dump(b.Desk, "f")
		b.Is("Dump", e, api.OK)
		loads(b, text, list)
		list = long(t, 1)
		refuses(b, dumpOf(list), api.Fault{Code: api.ErrLong})
		refuses(b, strings.Repeat("\n", api.MaxText), noText(1, 1))
		refuses(b, strings.Repeat("\n", api.MaxText+1), api.Fault{Code: api.ErrLong})
		refuses(b, text[:len(text)-1]+"x", noText(strings.Count(text, "\n"), len("root 0:0\n")))
	}
}

package console_test

import (
	"bytes"
	"fmt"
	"slices"
	"strings"
	"sync"
	"testing"

	"strata/api"
	"strata/bench"
	"strata/console"
)

// pair is a console beside its twin.
type pair struct {
	*testing.T
	all  []grammar
	c    *console.Console
	twin *twin
	said []string // the lines that were obeyed
}

// known are the grammars, made once.
var known = sync.OnceValue(grammars)

func newPair(t *testing.T) *pair {
	return &pair{T: t, all: known(), c: console.New(), twin: &twin{}}
}

// does obeys a line on both, and fails the test unless they answer the same.
func (p *pair) does(line string) (string, api.Errno) {
	p.Helper()
	p.said = append(p.said, line)
	want, no := p.twin.do(p.all, line)
	got, e := p.c.Do(line)
	if off := p.twin.d != nil && !p.twin.d.On(); off && strings.TrimSpace(line) == "files" && e == api.OK { // free
		got = want
	}
	if got != want || e != no {
		p.Fatalf("%s: %q, %d, want %q, %d", strings.Join(shortened(p.said), "; "), got, e, want, no)
	}
	return got, e
}

// script obeys lines with semicolons between.
func (p *pair) script(lines string) {
	p.Helper()
	for _, line := range strings.Split(lines, ";") {
		p.does(line)
	}
}

// holds fails the test unless both hold the same. P20.2.
func (p *pair) holds() {
	p.Helper()
	if !sameState(p.c.State(), p.twin.state()) {
		p.Fatalf("%s: the disk holds something else", strings.Join(shortened(p.said), "; "))
	}
}

func shortened(lines []string) []string {
	var out []string
	for _, line := range lines {
		if len(line) > 100 {
			line = line[:100] + ".."
		}
		out = append(out, line)
	}
	return out
}

func sameState(a, b api.State) bool {
	return a.Block == b.Block && slices.EqualFunc(a.Files, b.Files, func(f, g api.File) bool {
		return f.Name == g.Name && f.Sealed == g.Sealed && slices.EqualFunc(f.Blocks, g.Blocks, bytes.Equal)
	})
}

// is fails the test unless a console answers that.
func is(t *testing.T, c *console.Console, line, want string, e api.Errno) {
	t.Helper()
	if got, no := c.Do(line); got != want || no != e {
		t.Fatalf("%.100q: %q, %d, want %q, %d", line, got, no, want, e)
	}
}

// obeys makes a console obey lines with semicolons between, none of which may be refused; the last answer.
func obeys(t *testing.T, c *console.Console, lines string) string {
	t.Helper()
	last := ""
	for _, line := range strings.Split(lines, ";") {
		answer, e := c.Do(line)
		if e != api.OK {
			t.Fatalf("%s: %d", line, e)
		}
		last = answer
	}
	return last
}

// begun is a console with an engine over so many variables, of blocks of one record.
func begun(t *testing.T, vars int) *console.Console {
	t.Helper()
	c := console.New()
	obeys(t, c, fmt.Sprintf("disk 64 1000000;power;open %d 64 1099511627776", vars))
	return c
}

// anyWord is a word of a kind; odd ones with numbers that are seldom right.
func anyWord(d *bench.Dice, kind string, vars, handles int) string {
	switch kind {
	case "H":
		return fmt.Sprint(1 + d.Below(handles+1))
	case "V":
		return fmt.Sprint(d.Below(vars + d.Below(20)/19 + 1 - min(vars, 1)))
	case "L":
		return fmt.Sprint(d.Below(vars + 1))
	case "NUM":
		return fmt.Sprint(d.Below(1000))
	case "INT":
		return fmt.Sprint(d.Below(200) - 60)
	case "BIT":
		return fmt.Sprint(d.Below(2))
	case "LIT":
		return anyWord(d, "V", vars, handles) + "=" + anyWord(d, "BIT", vars, handles)
	case "BITS":
		return truthsOf(d.Table(20)[:vars+d.Below(20)/19])
	case "NAME=H":
		return string(rune('a'+d.Below(3))) + "=" + anyWord(d, "H", vars, handles)
	case "OP":
		return strings.Fields(operatorNames)[d.Below(16)]
	case "WORD":
		return []string{"x", "cat-0000000000000001", "dd-0000000000000001", "A", "tmp-1", "=:"}[d.Below(6)]
	}
	return kind
}

// anyList is a list of words of a kind: of variables most often such that each stands once.
func anyList(d *bench.Dice, kind string, vars, handles int) []string {
	if d.Below(6) > 0 && kind != "NAME=H" {
		var out []string
		for _, v := range d.Some(vars, d.Below(vars+1)) {
			word := fmt.Sprint(v)
			if kind == "LIT" {
				word += "=" + fmt.Sprint(d.Below(2))
			}
			out = append(out, word)
		}
		return out
	}
	var out []string
	for range d.Below(4) {
		out = append(out, anyWord(d, kind, vars, handles))
	}
	return out
}

// anyRest is the rest of a line with that first word.
func anyRest(d *bench.Dice, word string, vars int) string {
	switch d.Below(20) {
	case 0:
		return []string{"x", "~ /", "(", "a#b"}[d.Below(4)]
	case 1:
		if word == "formula" || word == "holds" {
			return []string{"# \t\x80", "\xff", "\ta & x0", "∃"}[d.Below(4)]
		}
	}
	switch word {
	case "formula":
		return anyFormula(d, vars, 3)
	case "cnf":
		return fmt.Sprintf("p cnf %d 2/1 -%d 0 / -1 0", vars, vars)
	case "load":
		bit := []string{"T", "F"}[d.Below(2)]
		return strings.ReplaceAll(fmt.Sprintf("strata 1/levels %d/nodes 0/root %s/", vars, bit), " ", []string{" ", "~"}[d.Below(2)])
	}
	return []string{"AG EF a", "EX a & !b", "E[a U b]", "A[true U c] <-> EG b", "AX false", "a -> b"}[d.Below(6)]
}

// anyFormula is a formula's text.
func anyFormula(d *bench.Dice, vars, deep int) string {
	if vars == 0 {
		return []string{"⊤", "false"}[d.Below(2)]
	}
	if deep == 0 || d.Below(8) == 0 {
		return fmt.Sprint("x", d.Below(vars+d.Below(100)/99))
	}
	first, second := anyFormula(d, vars, deep-1), anyFormula(d, vars, deep-1)
	switch d.Below(7) {
	case 0:
		return "!(" + first + ")"
	case 1:
		return fmt.Sprintf("(∃x%d: %s) \n ^ %s", d.Below(vars), first, second)
	}
	return "(" + first + ") " + []string{"&", "∨", "^", "->", "<->"}[d.Below(5)] + "  (" + second + ")"
}

// anyLine is a line of a form; blanks stand anywhere where they may.
func anyLine(d *bench.Dice, form string, vars, handles int) string {
	blanks := func(least int) string {
		if d.Below(8) > 0 {
			return strings.Repeat(" ", least)
		}
		return strings.Repeat(" ", least+d.Below(3))
	}
	words := strings.Fields(form)
	line := blanks(0) + words[0]
	for i := 1; i < len(words); i++ {
		var next []string
		switch {
		case words[i] == "..":
		case i+1 < len(words) && words[i+1] == "..":
			next = anyList(d, words[i], vars, handles)
		case words[i] == "REST" || words[i] == "ANY":
			next = []string{anyRest(d, words[0], vars)}
		default:
			next = []string{anyWord(d, words[i], vars, handles)}
		}
		for _, word := range next {
			line += blanks(1) + word
		}
	}
	return line + blanks(0)
}

// bent is a line that is changed in one place.
func bent(d *bench.Dice, line string) string {
	const odd = " #=:-0189aAx/~\t\n\x00\x1f\x7f\x80\xff"
	i := d.Below(len(line) + 1)
	b := odd[d.Below(len(odd)):][:1]
	words := strings.Split(line, " ")
	w := d.Below(len(words))
	switch d.Below(7) {
	case 0:
		return line[:i] + b + line[i:]
	case 1:
		return line[:i] + b + line[min(i+1, len(line)):]
	case 2:
		return line[:i] + line[min(i+1, len(line)):]
	case 3:
		return line[:i]
	case 4:
		words = slices.Insert(words, w, words[d.Below(len(words))])
	case 5:
		words = slices.Delete(words, w, w+1)
	case 6:
		words[w] += words[d.Below(len(words))]
	}
	return strings.Join(words, " ")
}

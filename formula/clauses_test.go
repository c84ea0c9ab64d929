package formula_test

import (
	"slices"
	"strconv"
	"strings"
	"testing"

	"strata/api"
	"strata/formula"
)

// TestReadClauses: lines, blanks and remarks wherever they may be (P13.6).
func TestReadClauses(t *testing.T) {
	two := api.Cnf{Vars: 2, Ends: []int{2, 3}, Lits: []int{1, -2, 2}}
	for _, text := range []string{
		"p cnf 2 2\n1 -2 0\n2 0\n",
		"p cnf 2 2\n1 -2 0\n2 0",
		"p cnf 2 2\n1 -2 0 2 0",
		"p cnf 2 2\n1\n-2\n0\n2\n0\n",
		"\n\n \t\r\np cnf 2 2\r\n1 -2 0\r\n2 0\r\n",
		" \tp  cnf\t2\r2  \n\t1   -2\t0\r2 0   ",
		"c\nc p cnf 9 9\n\t c\ncnf\np cnf 2 2\nc 1 0\n1 -2\n  c \xff\xfe∧\n 0\ncccc\n2 0\nc",
		"c p cnf\n" + "p cnf 2 2\n1 -2 0 2 0\n" + "c 7 7 7 0\n",
		"p cnf 2 2\n\n\n1 -2 0\n\n2 0\n\n",
	} {
		readsClauses(t, text, two, api.Fault{})
	}
	readsClauses(t, "p cnf 0 0", api.Cnf{}, api.Fault{})
	readsClauses(t, "p cnf 65536 0\n", api.Cnf{Vars: 65536}, api.Fault{})
	readsClauses(t, "p cnf 3 4\n0 0\n1 1 -1 0 0", api.Cnf{Vars: 3, Ends: []int{0, 0, 3, 3}, Lits: []int{1, 1, -1}}, api.Fault{})
	readsClauses(t, "p cnf 65536 1\n65536 -65536 65535 0", api.Cnf{Vars: 65536, Ends: []int{3}, Lits: []int{65536, -65536, 65535}}, api.Fault{})
}

// TestFaultsOfHead: each word of the head, the one that is missing, the one that is too many (P13.6).
func TestFaultsOfHead(t *testing.T) {
	for _, x := range []struct {
		text string
		want api.Fault
	}{
		{"\n\n", at(api.ErrHead, 3, 1)},
		{"c only\n c so", at(api.ErrHead, 2, 6)},
		{" \t", at(api.ErrHead, 1, 3)},
		{"pcnf 1 1", at(api.ErrHead, 1, 1)},
		{"P cnf 1 1", at(api.ErrHead, 1, 1)},
		{"1 0", at(api.ErrHead, 1, 1)},
		{"\xff", at(api.ErrHead, 1, 1)},
		{" pp", at(api.ErrHead, 1, 2)},
		{"p CNF 1 1", at(api.ErrHead, 1, 3)},
		{"p cnf1 1 1", at(api.ErrHead, 1, 3)},
		{"p 1 1", at(api.ErrHead, 1, 3)},
		{"p", at(api.ErrHead, 1, 2)},
		{"p  \t\n", at(api.ErrHead, 1, 2)},
		{"\n  p cnf \r\n1 1", at(api.ErrHead, 2, 8)},
		{"p cnf 12 \n1\n", at(api.ErrHead, 1, 9)},
		{"p cnf x", at(api.ErrNumber, 1, 7)},
		{"p cnf 1 x", at(api.ErrNumber, 1, 9)},
		{"p cnf 65537", at(api.ErrMany, 1, 7)},
		{"p cnf 65537 x y", at(api.ErrMany, 1, 7)},
		{"p cnf 1 65537 y", at(api.ErrMany, 1, 9)},
		{"p cnf 1 1 c", at(api.ErrHead, 1, 11)},
		{"p cnf 1 1\t0\n0", at(api.ErrHead, 1, 11)},
		{"p cnf 2147483647 1", at(api.ErrMany, 1, 7)},
		{"p cnf 2147483648 1", at(api.ErrNumber, 1, 7)},
		{"p cnf 1 2147483647", at(api.ErrMany, 1, 9)},
		{"p cnf 1 2147483648", at(api.ErrNumber, 1, 9)},
		{"p cnf -1 1", at(api.ErrNumber, 1, 7)},
		{"p cnf +1 1", at(api.ErrNumber, 1, 7)},
		{"p cnf 00 1", at(api.ErrNumber, 1, 7)},
		{"p cnf 1 -0", at(api.ErrNumber, 1, 9)},
		{"p cnf 1 1_0", at(api.ErrNumber, 1, 9)},
		{"p cnf 1 ١", at(api.ErrNumber, 1, 9)},
		{"p cnf " + strings.Repeat("9", 1000) + " 1", at(api.ErrNumber, 1, 7)},
		{"p cnf 18446744073709551617 1", at(api.ErrNumber, 1, 7)},
		{"p cnf 4294967297 1", at(api.ErrNumber, 1, 7)},
		{"p cnf 1 1\vc", at(api.ErrNumber, 1, 9)},
		{"p cnf 1 1\x00", at(api.ErrNumber, 1, 9)},
		{"p cnf 1 1\np cnf 1 1", at(api.ErrNumber, 2, 1)},
		{"p cnf 1 0\np cnf 1 1", at(api.ErrHead, 2, 1)},
	} {
		readsClauses(t, x.text, api.Cnf{}, x.want)
	}
}

// TestFaultsOfLiterals: what is no literal, one above V, a word behind the last clause, and the text's end (P13.6).
func TestFaultsOfLiterals(t *testing.T) {
	for _, word := range []string{"-", "--1", "-+1", "+1", "01", "-01", "-0", "00", "1-", "1.", "x1", "%", "c", "\xff", "é", "2147483648", "-2147483648", "9223372036854775808", "-9223372036854775808", "18446744073709551617", strings.Repeat("1", 100), "1,0", "1\v0"} {
		readsClauses(t, "p cnf 1 1\n1 "+word+" 0", api.Cnf{}, at(api.ErrNumber, 2, 3))
		readsClauses(t, "p cnf 1 0\n 1 "+word, api.Cnf{}, at(api.ErrHead, 2, 2))
		readsClauses(t, "p cnf 1 1\n1 0 "+word, api.Cnf{}, at(api.ErrHead, 2, 5))
	}
	for _, word := range []string{"4", "-4", "65537", "-65537", "2147483647", "-2147483647"} {
		readsClauses(t, "p cnf 3 1\n1 "+word+" 0", api.Cnf{}, at(api.ErrLevel, 2, 3))
	}
	for _, x := range []struct {
		text string
		want api.Fault
	}{
		{"p cnf 0 1\n1 0", at(api.ErrLevel, 2, 1)},
		{"p cnf 1 1", at(api.ErrHead, 1, 10)},
		{"p cnf 1 1\n", at(api.ErrHead, 2, 1)},
		{"p cnf 1 1\n1\n\nc end", at(api.ErrHead, 4, 6)},
		{"p cnf 1 2\n1 0\n", at(api.ErrHead, 3, 1)},
		{"p cnf 1 2\n1 0 1 ", at(api.ErrHead, 2, 7)},
		{"p cnf 1 2\n1 0 1 0 0", at(api.ErrHead, 2, 9)},
		{"p cnf 1 1\n2 x 0", at(api.ErrLevel, 2, 1)},
		{"p cnf 1 1\nx 2 0", at(api.ErrNumber, 2, 1)},
		{"p cnf 1 1\n1 c\n0", at(api.ErrNumber, 2, 3)},
		{"p cnf 1 1\n0\n0\n", at(api.ErrHead, 3, 1)},
	} {
		readsClauses(t, x.text, api.Cnf{}, x.want)
	}
}

// TestLongClauses: a text may have MaxText bytes, and is not looked at if it has one more (P13.6).
func TestLongClauses(t *testing.T) {
	head := "p cnf 1 1\n1 0"
	readsClauses(t, head+strings.Repeat(" ", api.MaxText-len(head)), api.Cnf{Vars: 1, Ends: []int{1}, Lits: []int{1}}, api.Fault{})
	readsClauses(t, head+strings.Repeat(" ", api.MaxText-len(head)+1), api.Cnf{}, api.Fault{Code: api.ErrLong})
	readsClauses(t, strings.Repeat("x", api.MaxText+1), api.Cnf{}, api.Fault{Code: api.ErrLong})
	readsClauses(t, strings.Repeat("\n", api.MaxText), api.Cnf{}, at(api.ErrHead, api.MaxText+1, 1))
	readsClauses(t, strings.Repeat("c", api.MaxText), api.Cnf{}, at(api.ErrHead, 1, api.MaxText+1))
	readsClauses(t, "p cnf 1 65536\n"+strings.Repeat("0\n", 65536), api.Cnf{Vars: 1, Ends: make([]int, 65536)}, api.Fault{})
	many := (api.MaxText - len("p cnf 1 1\n0")) / 2
	readsClauses(t, "p cnf 1 1\n"+strings.Repeat("1 ", many)+"0", api.Cnf{Vars: 1, Ends: []int{many}, Lits: slices.Repeat([]int{1}, many)}, api.Fault{})
}

// tokenOfCnf is a word of the model, or the end of a line (at which the text is "\n").
type tokenOfCnf struct {
	text string
	at   int
}

// cutCnf is a text's words and its ends of lines, remarks taken out byte by byte.
func cutCnf(text string) []tokenOfCnf {
	var out []tokenOfCnf
	begun, remark := false, false // of the line: a byte that is no blank has been met; it is c
	inWord := false
	for i := 0; i < len(text); i++ {
		switch b := text[i]; {
		case b == '\n':
			out = append(out, tokenOfCnf{"\n", i})
			begun, remark, inWord = false, false, false
		case b == ' ' || b == '\t' || b == '\r':
			inWord = false
		default:
			remark = remark || !begun && b == 'c'
			begun = true
			if !remark && !inWord {
				out = append(out, tokenOfCnf{"", i})
				inWord = true
			}
			if !remark {
				out[len(out)-1].text += string(text[i : i+1])
			}
		}
	}
	return append(out, tokenOfCnf{"\n", len(text)})
}

// modelCnf reads clauses word by word, with a state that says which word comes next.
func modelCnf(text string) (api.Cnf, api.Fault) {
	var c api.Cnf
	state, many, behind := 0, 0, 0
	fault := func(code api.Errno, at int) (api.Cnf, api.Fault) {
		return api.Cnf{}, api.Fault{Code: code, At: placeOf(text, at)}
	}
	for _, w := range cutCnf(text) {
		n, err := strconv.ParseUint(w.text, 10, 31)
		plain := err == nil && strconv.FormatUint(n, 10) == w.text
		signed, err := strconv.ParseInt(w.text, 10, 32)
		literal := err == nil && strconv.FormatInt(signed, 10) == w.text && signed > -1<<31
		switch {
		case w.text == "\n" && state > 0 && state < 4:
			return fault(api.ErrHead, behind)
		case w.text == "\n" && state == 4:
			state = 5
		case w.text == "\n":
		case state == 0 && w.text != "p" || state == 1 && w.text != "cnf" || state == 4:
			return fault(api.ErrHead, w.at)
		case state < 2:
			state++
		case state < 4 && !plain:
			return fault(api.ErrNumber, w.at)
		case state < 4 && n > 65536:
			return fault(api.ErrMany, w.at)
		case state == 2:
			c.Vars, state = int(n), 3
		case state == 3:
			many, state = int(n), 4
		case len(c.Ends) == many:
			return fault(api.ErrHead, w.at)
		case !literal:
			return fault(api.ErrNumber, w.at)
		case int(signed) > c.Vars || int(signed) < -c.Vars:
			return fault(api.ErrLevel, w.at)
		case signed == 0:
			c.Ends = append(c.Ends, len(c.Lits))
		default:
			c.Lits = append(c.Lits, int(signed))
		}
		behind = w.at + len(w.text)
	}
	if state < 5 || len(c.Ends) < many {
		return fault(api.ErrHead, len(text))
	}
	return c, api.Fault{}
}

// TestAnyClauses: any words, with a head and without (P13.6).
func TestAnyClauses(t *testing.T) {
	d := newDice(10)
	read, seen := 0, map[api.Errno]int{}
	for range 40000 {
		text := of(d, "", "c a remark\n", " \n", "\r\n c\n") + of(d, "p cnf 2 2\n", "p cnf 2 1\n", "p cnf 1 3", "p cnf 0 0\n", "p cnf 2 0", "p cnf", "")
		for range d.Below(9) {
			text += of(d, "1", "-1", "2", "-2", "0", "0", "0", "0", "3", "-3", "01", "-0", "p", "cnf", "c", "65536", "65537", "2147483647", "2147483648", "-", "x") + of(d, " ", " ", "\n", "\t", "\r\n", "\nc 0 0\n")
		}
		if d.Below(2) == 0 {
			text = strings.TrimSpace(text)
		}
		want, fault := modelCnf(text)
		readsClauses(t, text, want, fault)
		seen[fault.Code]++
		if c, e := formula.ParseCnf(text); e.Code == api.OK {
			read++
			clausesBack(t, c)
		}
	}
	if read < 1000 || len(seen) != 5 {
		t.Errorf("%d texts were read, faults %v", read, seen)
	}
}

// clausesBack: the text of clauses is read as the same clauses.
func clausesBack(t *testing.T, c api.Cnf) {
	t.Helper()
	text, e := formula.PrintCnf(c)
	if e != api.OK || !formula.FormedCnf(c) {
		t.Errorf("%v: %d", c, e)
	}
	readsClauses(t, text, c, api.Fault{})
}

// TestPrintClauses: the one text, line by line, and back (P13.6).
func TestPrintClauses(t *testing.T) {
	for _, x := range []struct {
		c    api.Cnf
		want string
	}{
		{api.Cnf{}, "p cnf 0 0\n"},
		{api.Cnf{Vars: 65536}, "p cnf 65536 0\n"},
		{api.Cnf{Ends: []int{0}}, "p cnf 0 1\n0\n"},
		{api.Cnf{Vars: 3, Ends: []int{0, 2, 2, 5}, Lits: []int{3, -3, 1, 1, -2}}, "p cnf 3 4\n0\n3 -3 0\n0\n1 1 -2 0\n"},
		{api.Cnf{Vars: 65536, Ends: []int{1}, Lits: []int{-65536}}, "p cnf 65536 1\n-65536 0\n"},
	} {
		if got, e := formula.PrintCnf(x.c); got != x.want || e != api.OK {
			t.Errorf("%v: %q %d, want %q", x.c, got, e, x.want)
		}
		clausesBack(t, x.c)
	}
}

// TestPrintLong: a text of MaxText bytes is printed, one of a byte more is not (P13.6).
func TestPrintLong(t *testing.T) {
	room := api.MaxText - len("p cnf 65536 1\n") - len("1 0\n")
	lits := append(slices.Repeat([]int{-10000}, room/len("-10000 ")), 1)
	c := api.Cnf{Vars: 65536, Ends: []int{len(lits)}, Lits: lits}
	if text, e := formula.PrintCnf(c); e != api.OK || len(text) != api.MaxText {
		t.Errorf("%d, %d bytes", e, len(text))
	}
	clausesBack(t, c)
	lits[len(lits)-1] = 10
	tooLong(t, c)
	tooLong(t, api.Cnf{Vars: 65536, Ends: []int{api.MaxLits}, Lits: slices.Repeat([]int{-65536}, api.MaxLits)})
	tooLong(t, api.Cnf{Vars: 1, Ends: []int{api.MaxLits}, Lits: slices.Repeat([]int{1}, api.MaxLits)})
}

func tooLong(t *testing.T, c api.Cnf) {
	t.Helper()
	if text, e := formula.PrintCnf(c); text != "" || e != api.ErrLong || !formula.FormedCnf(c) {
		t.Errorf("%d literals: %d bytes, %d", len(c.Lits), len(text), e)
	}
}

// TestFormedCnf: which values are clauses (P13.6).
func TestFormedCnf(t *testing.T) {
	for _, x := range []struct {
		c    api.Cnf
		want bool
	}{
		{api.Cnf{}, true},
		{api.Cnf{Vars: 65536}, true},
		{api.Cnf{Vars: 65537}, false},
		{api.Cnf{Vars: -1}, false},
		{api.Cnf{Vars: least}, false},
		{api.Cnf{Vars: most}, false},
		{api.Cnf{Ends: make([]int, api.MaxClause)}, true},
		{api.Cnf{Ends: make([]int, api.MaxClause+1)}, false},
		{api.Cnf{Vars: 1, Ends: []int{api.MaxLits}, Lits: slices.Repeat([]int{1}, api.MaxLits)}, true},
		{api.Cnf{Vars: 1, Ends: []int{api.MaxLits + 1}, Lits: slices.Repeat([]int{1}, api.MaxLits+1)}, false},
		{api.Cnf{Vars: 1, Lits: []int{1}}, false},
		{api.Cnf{Vars: 1, Ends: []int{0}, Lits: []int{1}}, false},
		{api.Cnf{Vars: 1, Ends: []int{1}, Lits: []int{1}}, true},
		{api.Cnf{Vars: 1, Ends: []int{2}, Lits: []int{1}}, false},
		{api.Cnf{Vars: 1, Ends: []int{1}}, false},
		{api.Cnf{Vars: 1, Ends: []int{0, 1, 1}, Lits: []int{1}}, true},
		{api.Cnf{Vars: 1, Ends: []int{1, 0, 1}, Lits: []int{1}}, false},
		{api.Cnf{Vars: 1, Ends: []int{2, 1}, Lits: []int{1}}, false},
		{api.Cnf{Vars: 1, Ends: []int{-1, 1}, Lits: []int{1}}, false},
		{api.Cnf{Vars: 1, Ends: []int{-1}}, false},
		{api.Cnf{Vars: 1, Ends: []int{least, 1}, Lits: []int{1}}, false},
		{api.Cnf{Vars: 1, Ends: []int{most, 1}, Lits: []int{1}}, false},
		{api.Cnf{Vars: 0, Ends: []int{1}, Lits: []int{1}}, false},
		{api.Cnf{Vars: 0, Ends: []int{1}, Lits: []int{0}}, false},
		{api.Cnf{Vars: 5, Ends: []int{2}, Lits: []int{5, -5}}, true},
		{api.Cnf{Vars: 5, Ends: []int{2}, Lits: []int{5, 6}}, false},
		{api.Cnf{Vars: 5, Ends: []int{2}, Lits: []int{-6, 5}}, false},
		{api.Cnf{Vars: 5, Ends: []int{1}, Lits: []int{0}}, false},
		{api.Cnf{Vars: 65536, Ends: []int{1}, Lits: []int{least}}, false},
		{api.Cnf{Vars: 65536, Ends: []int{1}, Lits: []int{least + 1}}, false},
		{api.Cnf{Vars: 65536, Ends: []int{1}, Lits: []int{most}}, false},
	} {
		text, e := formula.PrintCnf(x.c)
		if got := formula.FormedCnf(x.c); got != x.want || x.want == (e == api.ErrTree) || !x.want && text != "" {
			t.Errorf("%d variables, ends %.10v, literals %.10v: %t, %d", x.c.Vars, x.c.Ends, x.c.Lits, got, e)
		}
	}
}

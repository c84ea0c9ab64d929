package formula_test

import (
	"slices"
	"strings"
	"testing"

	"strata/api"
	"strata/formula"
)

// TestAllShortTexts: all rows of few tokens, those that are no formula too (P13.1).
func TestAllShortTexts(t *testing.T) {
	tokens := []string{"x0", "true", "!", "exists", "&", "->", "<->", "(", ")", ",", ":", "ite", "=", "x"}
	var try func(text string, more int)
	try = func(text string, more int) {
		asModel(t, text)
		if more == 0 || t.Failed() {
			return
		}
		for _, token := range tokens {
			try(text+" "+token, more-1)
		}
	}
	try("", 5)
}

// TestAnyTexts: formulas in any spelling, and such with a few places changed (P13.1, P13.7).
func TestAnyTexts(t *testing.T) {
	d := newDice(1)
	for range 6000 {
		f := d.tree(1 + d.Below(12))
		text := d.odd(d.bracketed(f))
		if got, fault := formula.Parse(text); fault != (api.Fault{}) || !slices.Equal(got, f) {
			t.Fatalf("P13.7: %q: %v %v, want %v", text, got, fault, f)
		}
		asModel(t, text)
		asModel(t, d.bent(text))
		plain, _ := formula.Print(f)
		asModel(t, d.bent(plain))
	}
}

// TestSameTokens: texts with the same tokens are read as the same list, or have a fault of the same token (P13.7).
func TestSameTokens(t *testing.T) {
	d := newDice(2)
	for range 3000 {
		plain, _ := formula.Print(d.tree(1 + d.Below(8)))
		text := d.bent(plain)
		if slices.ContainsFunc(cut(text), func(p piece) bool { return p.code != api.OK }) {
			continue
		}
		f, fault := formula.Parse(text)
		other := d.odd(text)
		g, faultOfOther := formula.Parse(other)
		if !slices.Equal(f, g) || fault.Code != faultOfOther.Code || tokenAt(text, fault) != tokenAt(other, faultOfOther) {
			t.Fatalf("%q: %v %v, %q: %v %v", text, f, fault, other, g, faultOfOther)
		}
	}
}

// tokenAt is which token of a text has a fault.
func tokenAt(text string, fault api.Fault) int {
	return slices.IndexFunc(cut(text), func(p piece) bool { return placeOf(text, p.at) == fault.At })
}

// TestMoreBlanks: where a text is read, so is it with more blanks between its tokens, and as the same (P13.7).
func TestMoreBlanks(t *testing.T) {
	d := newDice(3)
	for range 1000 {
		f := d.tree(1 + d.Below(9))
		text, _ := formula.Print(f)
		var out strings.Builder
		for _, p := range cut(text) {
			out.WriteString(p.text + of(d, " ", "\n\n", "\t\r ") + d.gap())
		}
		if got, fault := formula.Parse(out.String()); fault != (api.Fault{}) || !slices.Equal(got, f) {
			t.Fatalf("%q: %v %v, want %v", out.String(), got, fault, f)
		}
	}
}

// TestFaultStays: a fault that is not at the end stays, whatever is written behind the text (P13.8).
func TestFaultStays(t *testing.T) {
	d := newDice(4)
	seen := map[api.Errno]int{}
	for range 6000 {
		plain, _ := formula.Print(d.tree(1 + d.Below(8)))
		text := d.bent(plain)
		_, fault := formula.Parse(text)
		if fault.Code == api.OK || fault.At == placeOf(text, len(text)) {
			continue
		}
		seen[fault.Code]++
		more := of(d, plain, d.bent(plain), "\xac", ">", "", ")", "=", "0")
		for _, blank := range []string{" ", "\n", "\t", "\r"} {
			if _, again := formula.Parse(text + blank + more); again != fault {
				t.Fatalf("%q: %v, and with %q behind it: %v", text, fault, blank+more, again)
			}
		}
	}
	for _, code := range []api.Errno{api.ErrByte, api.ErrNumber, api.ErrToken} {
		if seen[code] < 20 {
			t.Errorf("only %d faults of code %d have been tried", seen[code], code)
		}
	}
}

// TestDeep: so many prefixes, brackets, ites and variables of quantifiers may be open, and not one more (P13.1).
func TestDeep(t *testing.T) {
	for _, x := range []struct {
		open, close string
		at          int // the byte of the last opening text where the fault is
	}{
		{"!", "", 0}, {"~ ", "", 0}, {"(", ")", 0}, {"ite(", ", x1, x2)", 0}, {"ite(x1, ", ", x2)", 0}, {"ite(x1, x2, ", ")", 0}, {"exists x1: ", "", 7}, {"∀ x1 : ", "", 4}, {"x0 & (", ")", 5}, {"(x0 <-> ", ")", 0}, {"x0 | exists x1: ", "", 12},
	} {
		text := strings.Repeat(x.open, 64) + "x0" + strings.Repeat(x.close, 64)
		if _, fault := formula.Parse(text); fault != (api.Fault{}) {
			t.Errorf("64 times %q: %v", x.open, fault)
		}
		asModel(t, text)
		refuses(t, x.open+text+x.close, at(api.ErrDeep, 1, 64*len(x.open)+x.at+1))
	}
	names := strings.Repeat(", x1", 62)
	asModel(t, "!exists x0"+names+": x0")
	asModel(t, "!exists x0, x9"+names+": x0")
	refuses(t, "!exists x0, x9"+names+": x0", at(api.ErrDeep, 1, len("!exists x0, x9"+names)-1))
	refuses(t, strings.Repeat("(", 64)+"exists x0: x0", at(api.ErrDeep, 1, 72))
	refuses(t, strings.Repeat("(", 64)+"exists )", at(api.ErrToken, 1, 72))
	refuses(t, strings.Repeat("(", 64)+"ite x0", at(api.ErrDeep, 1, 65))
	refuses(t, strings.Repeat("(", 64)+")", at(api.ErrToken, 1, 65))
	refuses(t, strings.Repeat("(", 63)+"ite x0", at(api.ErrToken, 1, 68))
}

// TestOpenNoMore: what has been closed, or has its operand, is not open any more (P13.1).
func TestOpenNoMore(t *testing.T) {
	for _, text := range []string{
		strings.Repeat("!x0 & ", 500) + "x0",
		strings.Repeat("!(!x0) | ", 500) + "!!x0",
		strings.Repeat("(exists x1: !x1) -> ", 500) + "x0",
		strings.Repeat("ite(!x0, (x1), exists x2: x2) ^ ", 500) + strings.Repeat("!", 64) + "x0",
		strings.Repeat("!", 63) + "(x0 & !x1)",
		strings.Repeat("!", 62) + "(x0 & !x1 & (x2) & ite(x0, !x1, exists x2: x2))",
		strings.Repeat("!", 60) + "ite(ite(!x0, (x1), exists x2: x2), !!x0, ((x0)))",
		strings.Repeat("(", 32) + "x0" + strings.Repeat(" & !x1)", 32) + " & " + strings.Repeat("!", 64) + "x0",
	} {
		asModel(t, text)
	}
}

// TestAnyDeep: formulas about as deep as may be, with more brackets than they need (P13.1).
func TestAnyDeep(t *testing.T) {
	d := newDice(5)
	deep := 0
	for range 300 {
		text := full(d.deep(20 + d.Below(60)))
		asModel(t, text)
		if modelFault(text).Code == api.ErrDeep {
			deep++
		}
	}
	if deep < 50 || deep > 250 {
		t.Errorf("%d of 300 texts were too deep", deep)
	}
}

// TestMany: MaxTree nodes, and the token of the one more (P13.1).
func TestMany(t *testing.T) {
	left := strings.Repeat("x0&", 32767)
	for _, x := range []struct {
		text string
		col  int // of ErrMany; 0: it is read
	}{
		{left + "x0", 0},
		{left + "!x0", 0},
		{left + "!!x0", len(left) + 3},
		{left + "x0^x0", len(left) + 4},
		{left + "!x0|x0", len(left) + 4},
		{left + "!1", 0},
		{left + "!!1", len(left) + 3},
		{left + "∃x0:1", 0},
		{left + "∃x0,x1:1", len(left) + 10},
		{left + "!∃x0:1", len(left) + 8},
		{left + "∃x0,x1,x2:1", len(left) + 10},
		{left + "ite(x0,x1,x2)", len(left) + 8},
		{left + "!!ite", len(left) + 3},
		{left + "(!((x0)))", 0},
		{strings.Repeat("x0->", 32767) + "x0", 0},
		{strings.Repeat("x0->", 32767) + "!x0", 0},
		{strings.Repeat("x0->", 32767) + "x0->x0", 32767*4 + 5},
		{strings.Repeat("x0<->", 32768) + "x0", 32768*5 + 1},
	} {
		got, fault := formula.Parse(x.text)
		end := x.text[max(0, len(x.text)-20):]
		switch {
		case x.col == 0 && (fault != (api.Fault{}) || len(got) != 65535 && len(got) != 65536 || !formula.Formed(got)):
			t.Errorf("..%s: %d nodes, %v", end, len(got), fault)
		case x.col > 0 && fault != at(api.ErrMany, 1, x.col):
			t.Errorf("..%s: %v, want ErrMany at %d", end, fault, x.col)
		case fault != modelFault(x.text):
			t.Errorf("..%s: %v, want %v", end, fault, modelFault(x.text))
		}
	}
}

// TestWhichFault: of one token the first that is named is told, of several tokens the first one's (P13.1, G5).
func TestWhichFault(t *testing.T) {
	full := strings.Repeat("x0&", 32767) + "!"
	for _, x := range []struct {
		text string
		code api.Errno
	}{
		{full + strings.Repeat("!", 64) + "x0", api.ErrMany},
		{full + "&", api.ErrToken},
		{full + "=", api.ErrByte},
		{full + "x01", api.ErrNumber},
		{full + "y", api.ErrToken},
		{full + "x0", api.OK},
		{full + "x0 x01", api.ErrNumber},
		{full + "x0 x1", api.ErrToken},
		{full + "x0 & =", api.ErrMany},
		{strings.Repeat("!x0&", 21844) + strings.Repeat("!", 65) + "=", api.ErrMany},
		{strings.Repeat("x0&", 32736) + strings.Repeat("!", 64) + "!x0", api.ErrDeep},
		{strings.Repeat("(", 64) + "(=", api.ErrDeep},
		{strings.Repeat("(", 64) + "x01", api.ErrNumber},
		{"x0 x1 =", api.ErrToken},
		{"x0 = x1 x2", api.ErrByte},
		{"x0 2", api.ErrNumber},
		{"x0 é", api.ErrByte},
		{"exists 2", api.ErrNumber},
		{"exists 1", api.ErrToken},
		{"exists true: x0", api.ErrToken},
		{"ite(x0; x1)", api.ErrByte},
	} {
		_, fault := formula.Parse(x.text)
		if fault.Code != x.code || fault != modelFault(x.text) {
			t.Errorf("..%s: %v, want %d, %v", x.text[max(0, len(x.text)-20):], fault, x.code, modelFault(x.text))
		}
	}
}

package formula_test

import (
	"slices"
	"strconv"
	"strings"
	"testing"
	"unicode/utf8"

	"strata/api"
	"strata/formula"
)

// asModel: Parse tells the fault that the model tells, or reads the formula that the model reads.
func asModel(t *testing.T, text string) {
	t.Helper()
	got, fault := formula.Parse(text)
	want := modelFault(text)
	switch {
	case fault != want || want.Code != api.OK && len(got) != 0:
		t.Errorf("%.80q: %d nodes, %v, want %v", text, len(got), fault, want)
	case want.Code == api.OK && !slices.Equal(got, modelList(text)):
		t.Errorf("%.80q: %.30v, want %.30v", text, got, modelList(text))
	case want.Code == api.OK && !formula.Formed(got):
		t.Errorf("%.80q: %.30v is read and not formed", text, got)
	}
}

// TestSpellings: each spelling of a token is that token (P13.1, P13.7).
func TestSpellings(t *testing.T) {
	for _, x := range []struct {
		want  []api.Fnode
		texts []string
	}{
		{list(c(1)), []string{"true", "1", "⊤", "\u22a4"}},
		{list(c(0)), []string{"false", "0", "⊥", "\u22a5"}},
		{list(v(3), not), []string{"!x3", "~x3", "¬x3", "\u00acx3"}},
		{list(v(0), v(1), and), []string{"x0&x1", "x0∧x1", "x0\u2227x1"}},
		{list(v(0), v(1), or), []string{"x0|x1", "x0∨x1", "x0\u2228x1"}},
		{list(v(0), v(1), xor), []string{"x0^x1", "x0⊕x1", "x0\u2295x1"}},
		{list(v(0), v(1), imp), []string{"x0->x1", "x0→x1", "x0\u2192x1"}},
		{list(v(0), v(1), iff), []string{"x0<->x1", "x0↔x1", "x0\u2194x1"}},
		{list(v(0), exists(1)), []string{"exists x1:x0", "∃x1:x0", "\u2203x1:x0"}},
		{list(v(0), forall(1)), []string{"forall x1:x0", "∀x1:x0", "\u2200x1:x0"}},
	} {
		for _, text := range x.texts {
			if got, fault := formula.Parse(text); fault != (api.Fault{}) || !slices.Equal(got, x.want) {
				t.Errorf("%q: %v %v, want %v", text, got, fault, x.want)
			}
		}
	}
}

// TestEachByte: each byte alone, where an operand may stand, behind one, within a remark and behind a word (P13.1).
func TestEachByte(t *testing.T) {
	for b := range 256 {
		one := string([]byte{byte(b)})
		for _, text := range []string{one, "x0" + one, "x0 " + one, "x0 & " + one + "x1", "x0 # " + one, "x" + one, "1" + one, one + one, "<" + one, "-" + one, "<-" + one, "\n" + one + "\n"} {
			asModel(t, text)
		}
	}
}

// TestEachRune: of all runes, and of texts that look like one and are none, just the signs are tokens (P13.1).
func TestEachRune(t *testing.T) {
	signs := "¬∧∨⊕→↔∃∀⊤⊥"
	for r := rune(128); r <= utf8.MaxRune; r++ {
		if !utf8.ValidRune(r) || strings.ContainsRune(signs, r) {
			continue
		}
		if _, fault := formula.Parse("\n x0 " + string(r)); fault != at(api.ErrByte, 2, 5) {
			t.Fatalf("%U: %v", r, fault)
		}
	}
	for _, none := range []string{
		"\xc0\xac", "\xe0\x82\xac", "\xc1\x81", "\xc0\x80", // overlong
		"\xed\xa0\x80", "\xed\xbf\xbf", // surrogates
		"\xf4\x90\x80\x80", "\xf5\x80\x80\x80", "\xff", // above the last rune
		"\xe2\x88", "\xe2", "\xc2", "\xf0\x90\x80", "\xe2\x88x", "\xc2!", // cut off
		"\x80", "\xac", "\xbf\xbf", // what goes on without a beginning
		"\ufffd", "\ufeff", "\u00a0", "\u2003", // runes that are none of the signs
	} {
		refuses(t, none, at(api.ErrByte, 1, 1))
		refuses(t, "x0"+none, at(api.ErrByte, 1, 3))
		refuses(t, "!\n\t"+none, at(api.ErrByte, 2, 2))
		asModel(t, "x0 #"+none)
	}
}

// TestWords: what a word is, and what it is not (P13.1).
func TestWords(t *testing.T) {
	for _, word := range []string{"True", "TRUE", "tru", "truex", "true1", "xtrue", "xx0", "xX0", "y0", "exist", "existsx0", "forall1", "ite1", "Ite", "it", "a", "Z9", "xa1", "p", "false0"} {
		refuses(t, word, at(api.ErrToken, 1, 1))
		refuses(t, "(\n!"+word+" x0", at(api.ErrToken, 2, 2))
	}
	for _, word := range []string{"x", "x00", "x01", "x65536", "x65537", "x70000", "x100000", "x99999", "x1a", "x1x", "x0x", "x1X2", "x12true", "x" + strings.Repeat("9", 20), "x" + strings.Repeat("0", 999), "x18446744073709551616", "x18446744073709551617", "x4294967296", "x" + strings.Repeat("1", 5000), "x1" + strings.Repeat("0", 1000)} {
		refuses(t, word, at(api.ErrNumber, 1, 1))
		refuses(t, "x0 "+word, at(api.ErrNumber, 1, 4))
		refuses(t, "exists x0,"+word+":", at(api.ErrNumber, 1, 11))
	}
	for _, digits := range []string{"2", "9", "00", "01", "10", "11", "000", "65535", "18446744073709551616", "18446744073709551617", strings.Repeat("0", 100), "1" + strings.Repeat("0", 64)} {
		refuses(t, digits, at(api.ErrNumber, 1, 1))
		refuses(t, "x0 "+digits, at(api.ErrNumber, 1, 4))
	}
	for n := 0; n < api.MaxVars; n++ {
		if got, fault := formula.Parse("x" + strconv.Itoa(n)); fault != (api.Fault{}) || !slices.Equal(got, list(v(n))) {
			t.Fatalf("x%d: %v %v", n, got, fault)
		}
	}
}

// TestPlaces: lines end with a byte 10 alone, columns are bytes, a remark and a sign of three bytes count as they are (P13.1).
func TestPlaces(t *testing.T) {
	for _, x := range []struct {
		text string
		want api.Fault
	}{
		{"\n\n\n=", at(api.ErrByte, 4, 1)},
		{"\r\r=", at(api.ErrByte, 1, 3)},
		{"\r\n=", at(api.ErrByte, 2, 1)},
		{"\t=", at(api.ErrByte, 1, 2)},
		{"∧", at(api.ErrToken, 1, 1)},
		{"∀∧", at(api.ErrToken, 1, 4)},
		{"# é\n  é", at(api.ErrByte, 2, 3)},
		{"x0 &", at(api.ErrToken, 1, 5)},
		{"x0 & ", at(api.ErrToken, 1, 6)},
		{"x0 & # x1", at(api.ErrToken, 1, 10)},
		{"x0 &\n\n", at(api.ErrToken, 3, 1)},
		{"#", at(api.ErrToken, 1, 2)},
		{"\n", at(api.ErrToken, 2, 1)},
	} {
		refuses(t, x.text, x.want)
	}
}

// TestLong: a text may have MaxText bytes, and is not looked at if it has one more (P13.1).
func TestLong(t *testing.T) {
	if got, fault := formula.Parse("x7" + strings.Repeat(" ", api.MaxText-2)); fault != (api.Fault{}) || !slices.Equal(got, list(v(7))) {
		t.Errorf("MaxText bytes: %v %v", got, fault)
	}
	if got, fault := formula.Parse("x7#" + strings.Repeat("\xff", api.MaxText-3)); fault != (api.Fault{}) || !slices.Equal(got, list(v(7))) {
		t.Errorf("a long remark: %v %v", got, fault)
	}
	long := api.Fault{Code: api.ErrLong}
	refuses(t, "x7"+strings.Repeat(" ", api.MaxText-1), long)
	refuses(t, "="+strings.Repeat(" ", api.MaxText), long)
	refuses(t, strings.Repeat("\n", 3*api.MaxText), long)
	refuses(t, strings.Repeat("\n", api.MaxText), at(api.ErrToken, api.MaxText+1, 1))
	refuses(t, strings.Repeat("x", api.MaxText), at(api.ErrToken, 1, 1))
	refuses(t, "x"+strings.Repeat("9", api.MaxText-1), at(api.ErrNumber, 1, 1))
}

package circuit_test

import (
	"fmt"
	"slices"
	"strings"
	"testing"

	"strata/api"
	"strata/circuit"
)

// TestEachKindOfLine: each form of a line becomes what the table says; names may stand further down (P14.1).
func TestEachKindOfLine(t *testing.T) {
	c := parsed(t, "circuit c\noutput m\nmux m l g i\nlatch l 1 m\ngate g less l i\noutput i\ninput i\noutput m\nend")
	want := net([]int{0, 3, 0}, mux("m", 1, 2, 3), latch("l", 1, 0), gate("g", api.OpLess, 1, 3), input("i"))
	if !same(c, want) {
		t.Errorf("%v, want %v", c, want)
	}
	for op, word := range strings.Fields("zero nor less nota diff notb xor nand and iff b imp a rev or one") {
		c := parsed(t, "circuit c\ninput a\ninput b\ngate g "+word+" b a\nend")
		if !same(c, net(nil, input("a"), input("b"), gate("g", op, 1, 0))) || printed(t, c) != "circuit c\ninput a\ninput b\ngate g "+word+" b a\nend\n" {
			t.Errorf("%s: %v", word, c)
		}
	}
	if c := parsed(t, "circuit c\nend"); !same(c, net(nil)) {
		t.Errorf("%v", c)
	}
}

// TestNames: what a name is, wherever one may stand (P14.1).
func TestNames(t *testing.T) {
	long := strings.Repeat("a", 32)
	for _, name := range []string{"a", "z", "A", "Z", "_", "__", "a0", "a9", "a.", "a..b_9", "_0", "input", "gate", "mux", "latch", "output", "end", "circuit", "and", "zero", long} {
		text := "circuit " + name + "\ninput " + name + "\nlatch l 0 " + name + "\ngate g or " + name + " " + name + "\nmux m " + name + " " + name + " " + name + "\noutput " + name + "\nend\n"
		c := parsed(t, text)
		if printed(t, c) != text || c.Name != name || c.Gates[0].Name != name || !circuit.Formed(c) {
			t.Errorf("%q: %v", name, c)
		}
	}
	for _, name := range []string{"0", "0a", ".", ".a", "a-b", "a,b", "9", "é", "aé", "a\x00", "\x00", "a\xff", "a\v", "a\fb", "@", "[", "`", "{", "a/", "a:", "a@", "a[", "a`", "a{", long + "a", strings.Repeat("a", 1000)} {
		refuses(t, "circuit "+name+"\nend", at(api.ErrLine, 1, 9))
		for _, x := range []struct{ ahead, behind string }{
			{"input ", ""}, {"gate ", " and i i"}, {"gate g or ", " i"}, {"gate g or i ", ""}, {"mux ", " i i i"}, {"mux m ", " i i"}, {"mux m i ", " i"}, {"mux m i i ", ""}, {"latch ", " 0 i"}, {"latch l 0 ", ""}, {"output ", ""},
		} {
			refuses(t, "circuit c\ninput i\n"+x.ahead+name+x.behind+"\nend", at(api.ErrLine, 3, len(x.ahead)+1))
		}
		if circuit.Formed(api.Circuit{Name: name}) || circuit.Formed(net(nil, input(name))) {
			t.Errorf("%q is no name", name)
		}
	}
}

// TestEachWord: of each form of a line each word is missing, of a wrong form, or one too many (P14.1, step 2).
func TestEachWord(t *testing.T) {
	for _, line := range []string{"input n", "gate n and i i", "mux n i i i", "latch n 1 i", "output i", "end"} {
		words := strings.Fields(line)
		for many := range words {
			if many > 0 {
				short := strings.Join(words[:many], " ")
				refuses(t, "circuit c\ninput i\n"+short+" \t # x\nend", at(api.ErrLine, 3, len(short)+1))
			}
			bent := slices.Clone(words)
			bent[many] = "-"
			refuses(t, "circuit c\ninput i\n"+strings.Join(bent, "  ")+"\nend", at(api.ErrLine, 3, len(strings.Join(words[:many], "  "))+1+min(many, 1)*2))
		}
		refuses(t, "circuit c\ninput i\n "+line+" i j\nend", at(api.ErrLine, 3, len(line)+3))
	}
	for _, head := range []string{"circuit", " circuit ", "circuit#c"} {
		refuses(t, head+"\nend", at(api.ErrLine, 1, strings.Index(head, "t")+2))
	}
	refuses(t, "circuit c d\nend", at(api.ErrLine, 1, 11))
	for _, word := range []string{"2", "00", "01", "true", "-1", "-", "0x"} {
		refuses(t, "circuit c\nlatch a "+word+" a\nend", at(api.ErrLine, 2, 9))
	}
	for _, word := range []string{"AND", "an", "andd", "8", "not", "0", "true", "c"} {
		refuses(t, "circuit c\ninput a\ngate b "+word+" a a\nend", at(api.ErrLine, 3, 8))
	}
}

// TestFirstWords: which line may stand where (P14.1, step 2).
func TestFirstWords(t *testing.T) {
	allRefused(t, []wrong{
		{"input a\nend", at(api.ErrLine, 1, 1)},
		{"\n # circuit c\n\tend", at(api.ErrLine, 3, 2)},
		{"Circuit c\nend", at(api.ErrLine, 1, 1)},
		{"circuitc\nend", at(api.ErrLine, 1, 1)},
		{"circuit c\n circuit d\nend", at(api.ErrLine, 2, 2)},
		{"circuit c\ncircuit 1\nend", at(api.ErrLine, 2, 1)},
		{"circuit c\nfoo\nend", at(api.ErrLine, 2, 1)},
		{"circuit c\nEND", at(api.ErrLine, 2, 1)},
		{"circuit c\nendd", at(api.ErrLine, 2, 1)},
		{"circuit c\nend\nend", at(api.ErrLine, 3, 1)},
		{"circuit c\nend\n\n  circuit c", at(api.ErrLine, 4, 3)},
		{"circuit c\nend\n-", at(api.ErrLine, 3, 1)},
		{"circuit c\nend end", at(api.ErrLine, 2, 5)},
		{"circuit c\ninput a end", at(api.ErrLine, 2, 9)},
		{"circuit c circuit d", at(api.ErrLine, 1, 11)},
		{"circuit c\nend\v", at(api.ErrLine, 2, 1)},
		{"\ufeffcircuit c\nend", at(api.ErrLine, 1, 1)},
		{"circuit c\n\x00\nend", at(api.ErrLine, 2, 1)},
		{"circuit c\nend\n\xa0", at(api.ErrLine, 3, 1)},
	})
}

// TestNoEnd: the place behind the text's last byte (P14.1, step 2).
func TestNoEnd(t *testing.T) {
	allRefused(t, []wrong{
		{" ", at(api.ErrLine, 1, 2)},
		{"\n", at(api.ErrLine, 2, 1)},
		{"\n\n # é", at(api.ErrLine, 3, 6)},
		{"circuit c\n", at(api.ErrLine, 2, 1)},
		{"circuit c\n\n", at(api.ErrLine, 3, 1)},
		{"circuit c # end", at(api.ErrLine, 1, 16)},
		{"circuit c\ninput a\t\r", at(api.ErrLine, 2, 10)},
		{"circuit c\r\ninput a\r\n#end", at(api.ErrLine, 3, 5)},
		{"circuit c\noutput a", at(api.ErrLine, 2, 9)},
	})
}

// TestTwice: a name that a line above has, ahead of what is wrong behind it (P14.1, step 2).
func TestTwice(t *testing.T) {
	for _, line := range []string{"input", "gate", "mux", "latch"} {
		rest := map[string]string{"input": "", "gate": " or a a", "mux": " a a a", "latch": " 0 a"}[line]
		refuses(t, "circuit c\ninput a\n "+line+" a"+rest+"\nend", at(api.ErrTwice, 3, len(line)+3))
		refuses(t, "circuit c\ninput a\n"+line+" a - - - - -\nend", at(api.ErrTwice, 3, len(line)+2))
		refuses(t, "circuit c\n"+line+" a"+rest+"\noutput a\ninput b\ninput a\nend", at(api.ErrTwice, 5, 7))
		parsed(t, "circuit a\n"+line+" "+line+strings.ReplaceAll(rest, "a", "b")+"\ninput b\nend")
	}
	refuses(t, "circuit c\ninput a\ninput a", at(api.ErrTwice, 3, 7))
	refuses(t, "circuit c\ninput a\ninput a\nfoo", at(api.ErrTwice, 3, 7))
	refuses(t, "circuit c\ngate a xx b b\ninput a\ninput a\nend", at(api.ErrLine, 2, 8))
}

// TestUndefined: over the lines from the top, outputs among them, behind all of step 2 and ahead of circles (P14.1, step 3).
func TestUndefined(t *testing.T) {
	allRefused(t, []wrong{
		{"circuit c\ngate a or b x\nend", at(api.ErrUndef, 2, 11)},
		{"circuit c\ngate a or a x\nend", at(api.ErrUndef, 2, 13)},
		{"circuit c\ninput a\nmux b x y z\nend", at(api.ErrUndef, 3, 7)},
		{"circuit c\ninput a\nmux b a y z\nend", at(api.ErrUndef, 3, 9)},
		{"circuit c\ninput a\nmux b a a z\nend", at(api.ErrUndef, 3, 11)},
		{"circuit c\nlatch a 0 c\nend", at(api.ErrUndef, 2, 11)},
		{"circuit c\noutput c\nend", at(api.ErrUndef, 2, 8)},
		{"circuit c\noutput x\nlatch a 0 y\nend", at(api.ErrUndef, 2, 8)},
		{"circuit c\nlatch a 0 y\noutput x\nend", at(api.ErrUndef, 2, 11)},
		{"circuit c\ngate a or a a\noutput b\nend", at(api.ErrUndef, 3, 8)},
		{"circuit c\noutput A\ninput a\nend", at(api.ErrUndef, 2, 8)},
		{"circuit c\noutput x\nend\nx", at(api.ErrLine, 4, 1)},
		{"circuit c\noutput x\n", at(api.ErrLine, 3, 1)},
		{"circuit c\noutput x\ninput a\ninput a\nend", at(api.ErrTwice, 4, 7)},
	})
}

// TestCircles: the first line that is itself in a circle, not one that only leads there or lies between two (P14.1, step 4).
func TestCircles(t *testing.T) {
	for _, x := range []struct {
		lines string
		want  api.Fault
	}{
		{"mux a a i i", at(api.ErrCircle, 3, 5)},
		{"mux a i a i", at(api.ErrCircle, 3, 5)},
		{"mux a i i a", at(api.ErrCircle, 3, 5)},
		{"gate a zero a i", at(api.ErrCircle, 3, 6)},
		{"gate a one i a", at(api.ErrCircle, 3, 6)},
		{"gate w or x i\ngate x or y i\ngate y or i x", at(api.ErrCircle, 4, 6)},
		{"gate w or x i\ngate y or i x\ngate x or y i", at(api.ErrCircle, 4, 6)},
		{"gate p or q q\ngate q or r i\ngate r or r i\ngate s or p t\ngate t or s s", at(api.ErrCircle, 5, 6)},
		{"gate p or x i\ngate m or x i\ngate y or m y\ngate x or x x", at(api.ErrCircle, 5, 6)},
		{"gate p or q q\ngate q or r r\ngate r or s s\ngate s or t t\ngate t or p i", at(api.ErrCircle, 3, 6)},
		{"gate h or i d\nmux d i e f\ngate e or g g\ngate f or g g\ngate g a i d", at(api.ErrCircle, 4, 5)},
		{"latch l 0 a\ngate a or l b\ngate b or a l", at(api.ErrCircle, 4, 6)},
	} {
		refuses(t, "circuit c\ninput i\n"+x.lines+"\nend", x.want)
	}
	for _, lines := range []string{"gate a or l i\nlatch l 0 a", "latch a 0 b\nlatch b 1 a", "gate a or b b\ngate b or d d\nmux e a b d\nlatch d 1 e"} {
		parsed(t, "circuit c\ninput i\n"+lines+"\nend")
	}
}

// many are so many lines that a function makes.
func many(lines int, line func(i int) string) string {
	var b strings.Builder
	for i := range lines {
		b.WriteString(line(i))
	}
	return b.String()
}

func anInput(i int) string { return fmt.Sprintf("input a%x\n", i) }

// TestTooMany: up to MaxGates lines, and as many outputs, are let in (P14.1, step 2).
func TestTooMany(t *testing.T) {
	const most = api.MaxGates
	full := "circuit c\n" + many(most, anInput)
	outs := "circuit c\noutput x\n" + many(most-1, func(int) string { return "output x\n" })
	if c := parsed(t, full+"output a0\nend"); len(c.Gates) != most || !circuit.Formed(c) || len(c.Outs) != 1 {
		t.Errorf("%d lines", len(c.Gates))
	}
	if c := parsed(t, outs+"input x\nend"); len(c.Outs) != most || !circuit.Formed(c) {
		t.Errorf("%d outs", len(c.Outs))
	}
	for _, line := range []string{"input x", "input", "input a0", "gate x y", "mux 1", "latch l 0 x y z"} {
		refuses(t, full+" "+line, at(api.ErrMany, most+2, 2))
	}
	for _, line := range []string{"output y", "output", "output 1 2"} {
		refuses(t, outs+"\n "+line, at(api.ErrMany, most+3, 2))
	}
	refuses(t, full+"inputs x", at(api.ErrLine, most+2, 1))
	refuses(t, full+"end\ninput x", at(api.ErrLine, most+3, 1))
	refuses(t, outs+"output1 x", at(api.ErrLine, most+2, 1))
	refuses(t, full+"output x\nend", at(api.ErrUndef, most+2, 8))
}

// TestTooLong: a text of MaxText bytes is read, one of more is not, whatever it says (P14.1, step 1).
func TestTooLong(t *testing.T) {
	const head = "circuit c\ninput i\nend\n"
	for _, fill := range []string{" ", "\n", "#"} {
		text := head + strings.Repeat(fill, api.MaxText-len(head))
		if c := parsed(t, text); !same(c, net(nil, input("i"))) {
			t.Errorf("%q: %v", fill, c)
		}
		refuses(t, text+" ", api.Fault{Code: api.ErrLong})
	}
	refuses(t, strings.Repeat("-", api.MaxText+1), api.Fault{Code: api.ErrLong})
	refuses(t, strings.Repeat("-", api.MaxText), at(api.ErrLine, 1, 1))
	refuses(t, strings.Repeat("#", api.MaxText), at(api.ErrLine, 1, api.MaxText+1))
}

// strewn is a text with blanks, remarks and empty lines that say nothing.
func (d *dice) strewn(text string) string {
	var b strings.Builder
	for _, line := range strings.SplitAfter(text, "\n") {
		line, end := strings.CutSuffix(line, "\n")
		for range d.Below(3) {
			b.WriteString(of(d, "\n", " \t\r\n", "# end\n", "\t#\n", "\r\n"))
		}
		for i, word := range strings.Split(line, " ") {
			b.WriteString(strings.Repeat(of(d, " ", "\t", "\r", " \t"), d.Below(3)))
			if i > 0 {
				b.WriteString(of(d, " ", "\t", "\r"))
			}
			b.WriteString(word)
		}
		b.WriteString(of(d, "", "", " ", "\t", "#", " # x", "#\xff\x00", "# circuit c # end"))
		if end {
			b.WriteByte('\n')
		}
	}
	return b.String()
}

// bent is a text with something else in it somewhere.
func (d *dice) bent(text string) string {
	i := d.Below(len(text) + 1)
	vocabulary := []string{"input", "gate", "mux", "latch", "output", "end", "circuit", "and", "a", "b", "x1", "0", "1", "2", "-", "#", "\n", " ", "end\n", "\noutput a\n", "\ninput a\n", "\xff", ".", "input b\ninput b"}
	switch d.Below(4) {
	case 0:
		return text[:i] + of(d, vocabulary...) + text[i:]
	case 1:
		words := strings.SplitAfter(text, " ")
		words[d.Below(len(words))] = of(d, vocabulary...) + of(d, "", " ")
		return strings.Join(words, "")
	case 2:
		lines := strings.SplitAfter(text, "\n")
		a, b := d.Below(len(lines)), d.Below(len(lines))
		if d.Below(3) == 0 {
			lines[a] = lines[b]
		}
		lines[a], lines[b] = lines[b], lines[a]
		return strings.Join(lines, "")
	}
	return text[:i] + text[min(len(text), i+d.Below(6)):]
}

// agrees: Parse answers what the model answers; what it answers is formed, and its print is read as it is (P14.1, P14.2, W11).
func agrees(t *testing.T, text string) {
	t.Helper()
	c, fault := circuit.Parse(text)
	want, wantFault := modelParse(text)
	if fault != wantFault || !same(c, want) {
		t.Fatalf("%q:\n%v %v, want\n%v %v", text, c, fault, want, wantFault)
	}
	if (fault == api.Fault{}) != circuit.Formed(c) {
		t.Fatalf("%q: %v", text, c)
	}
	if fault == (api.Fault{}) {
		if again := parsed(t, printed(t, c)); !same(again, c) {
			t.Fatalf("%q: %v, %v", text, again, c)
		}
	}
}

// TestAgainstTheModel: texts of circuits, with and without circles, whole and bent (P14.1, P14.2, W11).
func TestAgainstTheModel(t *testing.T) {
	d := newDice(1)
	faults := map[api.Errno]int{}
	for range 12000 {
		c := of(d, d.formed, d.any)(d.Below(9))
		text := loosePrint(c)
		for range d.Below(4) {
			text = d.bent(text)
		}
		if d.Below(2) == 0 {
			text = d.strewn(text)
		}
		agrees(t, text)
		_, fault := circuit.Parse(text)
		faults[fault.Code]++
	}
	for _, code := range []api.Errno{api.OK, api.ErrLine, api.ErrTwice, api.ErrUndef, api.ErrCircle} {
		if faults[code] < 200 {
			t.Errorf("too few texts with %d: %v", code, faults)
		}
	}
}

// loosePrint is the text of what may have circles.
func loosePrint(c api.Circuit) string {
	text := "circuit " + c.Name + "\n"
	for _, g := range c.Gates {
		name := func(place int) string { return " " + c.Gates[place].Name }
		switch g.Kind {
		case api.GaInput:
			text += "input " + g.Name
		case api.GaGate:
			text += "gate " + g.Name + " " + modelOps[g.Op] + name(g.A) + name(g.B)
		case api.GaMux:
			text += "mux " + g.Name + name(g.A) + name(g.B) + name(g.C)
		case api.GaLatch:
			text += fmt.Sprint("latch ", g.Name, " ", g.Op) + name(g.A)
		}
		text += "\n"
	}
	for _, out := range c.Outs {
		text += "output " + c.Gates[out].Name + "\n"
	}
	return text + "end\n"
}

// TestNothingSaid: blanks, remarks and empty lines change nothing (P14.11).
func TestNothingSaid(t *testing.T) {
	d := newDice(2)
	for range 2000 {
		c := d.formed(d.Below(9))
		text := d.strewn(printed(t, c))
		if got := parsed(t, text); !same(got, c) {
			t.Fatalf("%q: %v, want %v", text, got, c)
		}
	}
}

// TestTheSameFault: a fault of step 2 that is not at the text's end stays, whatever is put behind its line (P14.11).
func TestTheSameFault(t *testing.T) {
	d := newDice(3)
	tried := 0
	for range 6000 {
		text := d.bent(d.bent(printed(t, d.formed(d.Below(7)))))
		_, fault := circuit.Parse(text)
		lines := strings.SplitAfter(text, "\n")
		if fault.Code == api.OK || fault.Code == api.ErrUndef || fault.Code == api.ErrCircle || fault.At.Line >= len(lines) {
			continue
		}
		tried++
		front := strings.Join(lines[:fault.At.Line], "")
		for _, behind := range []string{"", "end", "\n\nend\n", "circuit", "input a\ninput a", "\xff", strings.Join(lines[d.Below(len(lines)):], "")} {
			refuses(t, front+behind, fault)
		}
	}
	if tried < 1000 {
		t.Errorf("too few: %d", tried)
	}
}

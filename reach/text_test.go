package reach_test

import (
	"fmt"
	"strings"
	"testing"

	"strata/api"
	"strata/bench"
	"strata/reach"
)

// judge tells the fault of a text by a machine with a stack, as the chapter's words say: what is open, and whether an operand or what stands behind one is waited for.
type judge struct {
	names   []string
	stack   []string // a prefix, "(", or an E or A: ahead of its bracket "E", ahead of its U "[", behind it "U"
	counted int
	behind  bool // an operand has been read
}

const blanks = " \t\n\r"

// tokenIn is the token in front of a text; "": none begins there.
func tokenIn(text string) string {
	const letters = "abcdefghijklmnopqrstuvwxyzABCDEFGHIJKLMNOPQRSTUVWXYZ_"
	if strings.IndexByte(letters, text[0]) >= 0 {
		return text[:len(text)-len(strings.TrimLeft(text, letters+"0123456789"))]
	}
	for _, sign := range strings.Fields("<-> -> ! & | ( ) [ ]") {
		if strings.HasPrefix(text, sign) {
			return sign
		}
	}
	return ""
}

func isOneOf(word, list string) bool { return strings.Contains(" "+list+" ", " "+word+" ") }

// top is what has been opened last and is still open.
func (j *judge) top() string {
	if len(j.stack) == 0 {
		return ""
	}
	return j.stack[len(j.stack)-1]
}

func (j *judge) pop() { j.stack = j.stack[:len(j.stack)-1] }

// opens pushes what a token opens.
func (j *judge) opens(what string) api.Errno {
	if j.stack = append(j.stack, what); len(j.stack) > 64 {
		return api.ErrDeep
	}
	return api.OK
}

func (j *judge) counts() api.Errno {
	if j.counted++; j.counted > 65536 {
		return api.ErrMany
	}
	return api.OK
}

// ends is told when an operand has been read: the prefixes ahead of it are open no longer.
func (j *judge) ends() {
	j.behind = true
	for j.top() == "!" {
		j.pop()
	}
}

// takes is what is told of a token.
func (j *judge) takes(word string) api.Errno {
	if j.top() == "E" {
		if word != "[" {
			return api.ErrCtl
		}
		j.stack[len(j.stack)-1] = "["
		return api.OK
	}
	if j.behind {
		return j.takesBehind(word)
	}
	switch {
	case isOneOf(word, "! EX EF EG AX AF AG"):
		if e := j.opens("!"); e != api.OK {
			return e
		}
		return j.counts()
	case isOneOf(word, "E A"):
		if e := j.opens("E"); e != api.OK {
			return e
		}
		return j.counts()
	case word == "(":
		return j.opens("(")
	case isOneOf(word, "true false "+strings.Join(j.names, " ")) && word != "":
		j.ends()
		return j.counts()
	}
	return api.ErrCtl
}

// takesBehind is that behind an operand.
func (j *judge) takesBehind(word string) api.Errno {
	switch {
	case isOneOf(word, "<-> -> & |"):
		j.behind = false
		return j.counts()
	case word == ")" && j.top() == "(", word == "]" && j.top() == "U":
		j.pop()
		j.ends()
		return api.OK
	case word == "U" && j.top() == "[":
		j.stack[len(j.stack)-1] = "U"
		j.behind = false
		return api.OK
	}
	return api.ErrCtl
}

// faultOf is that of a text.
func faultOf(text string, names []string) api.Fault {
	if len(text) > 1<<20 {
		return api.Fault{Code: api.ErrLong}
	}
	j := &judge{names: names}
	at := api.Pos{Line: 1, Col: 1}
	pass := func(n int) {
		for range n {
			at.Col++
			if text[0] == '\n' {
				at = api.Pos{Line: at.Line + 1, Col: 1}
			}
			text = text[1:]
		}
	}
	for {
		for text != "" && strings.IndexByte(blanks, text[0]) >= 0 {
			pass(1)
		}
		if text == "" {
			break
		}
		word := tokenIn(text)
		if e := j.takes(word); e != api.OK {
			return api.Fault{Code: e, At: at}
		}
		pass(len(word))
	}
	if !j.behind || len(j.stack) > 0 {
		return api.Fault{Code: api.ErrCtl, At: at}
	}
	return api.Fault{}
}

// asker is an engine over two variables, over which texts are asked.
type asker struct {
	*rig
	steps int
	names []string
	sets  []int
}

func newAsker(t *testing.T) asker {
	t.Helper()
	r := begin(t, 1, options(2, 1))
	a := asker{rig: r, steps: r.put(bench.Number(2, 6)), names: []string{"a", "bc", "_9"}}
	for range a.names {
		a.sets = append(a.sets, r.putSet(set{true, false}))
	}
	return a
}

// judges fails the test unless a text has the fault that it must have; whether it has none.
func (a asker) judges(text string) bool {
	a.Helper()
	want := faultOf(text, a.names)
	h, f := reach.Holds(a.e, a.steps, a.names, a.sets, text)
	if f != want || (h == 0) != (f != api.Fault{}) {
		if len(text) > 300 {
			text = text[:150] + " .. " + text[len(text)-150:]
		}
		a.Fatalf("%q: %d, %v, want %v", text, h, f, want)
	}
	if h != 0 {
		a.e.Free(h)
	}
	return h != 0
}

// TestTexts: of any tokens in any order, with a byte that is none here and there. P19.6.
func TestTexts(t *testing.T) {
	a := newAsker(t)
	tokens := strings.Fields("a bc _9 true false ! EX EF EG AX AF AG E A U E[ A[ <-> -> & | ( ) [ ] a a & | U ] ) # 7 - < <- > = y EXa a1 Ex ax T \x00 \x80 é")
	right := 0
	for seed := range 4000 {
		d := bench.Dice(seed)
		text := ""
		for range 1 + d.Below(12) {
			text += tokens[d.Below(len(tokens)-d.Below(2)*16)] + []string{"", " ", "\n", "\t\r "}[d.Below(4)]
		}
		if a.judges(text) {
			right++
		}
	}
	if right < 50 {
		t.Errorf("%d texts are right", right)
	}
}

// TestBentTexts: properties in which a byte is changed, taken out, or put in; and their beginnings. P19.6.
func TestBentTexts(t *testing.T) {
	a := newAsker(t)
	right, wrong := 0, 0
	bytes := "abc_9 EXFGAU[]()!&|<->tru\n\t#0\xff"
	for seed := range 300 {
		d := bench.Dice(seed)
		text := anyProperty(&d, a.names, 4).text
		if !a.judges(text) {
			t.Fatalf("%q is a property", text)
		}
		for range 8 {
			i, b := d.Below(len(text)), string(bytes[d.Below(len(bytes))])
			bent := []string{text[:i] + b + text[i+1:], text[:i] + text[i+1:], text[:i] + b + text[i:], text[:i]}[d.Below(4)]
			if a.judges(bent) {
				right++
			} else {
				wrong++
			}
		}
	}
	if right < 100 || wrong < 1000 {
		t.Errorf("%d are right, %d wrong", right, wrong)
	}
}

// TestFaults: one by one, with their places. P19.6.
func TestFaults(t *testing.T) {
	a := newAsker(t)
	for _, c := range []struct {
		text      string
		line, col int
	}{
		{"", 1, 1}, {"  ", 1, 3}, {"\n\n", 3, 1}, {" \r\t", 1, 4}, {"a\n ", 0, 0}, {"a &\n", 2, 1}, {"a & # b", 1, 5},
		{"1", 1, 1}, {"a1", 1, 1}, {"A1", 1, 1}, {"EX1 a", 1, 1}, {"EXa", 1, 1}, {"E a U a]", 1, 3}, {"E (a U a)", 1, 3}, {"E[a U a)", 1, 8}, {"E[a & a]", 1, 8}, {"E[U a]", 1, 3}, {"E[a U]", 1, 6}, {"E[a U a U a]", 1, 9}, {"E[a U a", 1, 8},
		{"E[(a U a)]", 1, 6}, {"(E[a U a]", 1, 10}, {"E[a U a]]", 1, 9}, {"[a U a]", 1, 1}, {"a]", 1, 2}, {"(a", 1, 3}, {"a)", 1, 2}, {"()", 1, 2}, {"! & a", 1, 3}, {"!", 1, 2}, {"a !", 1, 3}, {"a EX a", 1, 3}, {"a a", 1, 3},
		{"a <-> <-> a", 1, 7}, {"a < a", 1, 3}, {"a <- a", 1, 3}, {"a - a", 1, 3}, {"a && a", 1, 4}, {"a -> | a", 1, 6}, {"U", 1, 1}, {"E", 1, 2}, {"E[", 1, 3}, {"A[true U\nfalse", 2, 6}, {"a\x00", 1, 2}, {"a \xc3\xa9", 1, 3}, {"\xff", 1, 1},
		{"true1", 1, 1}, {"True", 1, 1}, {"ex a", 1, 1}, {"A", 1, 2}, {"AX", 1, 3}, {"EX\n\n\n", 4, 1}, {"b", 1, 1}, {"bcd", 1, 1}, {"_", 1, 1}, {"_9_", 1, 1},
	} {
		want := api.Fault{}
		if c.line > 0 {
			want = api.Fault{Code: api.ErrCtl, At: api.Pos{Line: c.line, Col: c.col}}
		}
		if got := faultOf(c.text, a.names); got != want {
			t.Errorf("%q: the test's own judge says %v, want %v", c.text, got, want)
		}
		a.judges(c.text)
	}
	for _, text := range []string{"a", "_9", "((a))", "a<->a->a|a&a", "!EX EF EG AX AF AG a", "!!a", "E[a U a]", "A[E[a U bc]U A[bc U a]]", "EX(a)", "E[a U(a)]&a", "a<->a<->a", "a->a->a", "\ttrue\r\n&\n false "} {
		if !a.judges(text) {
			t.Errorf("%q is refused", text)
		}
	}
}

// TestDeep: 64 may be open, whatever they are; one more is told where it opens. P19.6.
func TestDeep(t *testing.T) {
	a := newAsker(t)
	forms := [][2]string{{"!", ""}, {"(", ")"}, {"EX ", ""}, {"AG ", ""}, {"E[", " U a]"}, {"A[a U ", "]"}, {"E[!a U ", "]"}}
	for seed := range 60 {
		d := bench.Dice(seed)
		for _, deep := range []int{63, 64, 65, 66} {
			head, tail := "", ""
			for i := range deep {
				f := forms[seed%len(forms)]
				if seed >= len(forms) {
					f = forms[d.Below(len(forms))]
				}
				if i == deep-1 && f[0] == "E[!a U " {
					f = forms[0] // it opens two
				}
				head, tail = head+f[0], f[1]+tail
			}
			text := head + "a" + tail
			a.judges(text)
			a.judges(text + " & " + text) // what was open is open no longer
			a.judges("(" + text + ")")
			a.judges(head) // the end is behind it
			a.judges(head + "#")
		}
	}
	for _, open := range []string{"!", "(", "EX ", "E", "A"} {
		want := api.Fault{Code: api.ErrDeep, At: api.Pos{Line: 1, Col: 65}}
		if _, f := reach.Holds(a.e, a.steps, nil, nil, strings.Repeat("!", 64)+open); f != want {
			t.Errorf("%q: %v", open, f)
		}
		if _, f := reach.Holds(a.e, a.steps, nil, nil, strings.Repeat("(", 64)+open+"&"); f != want {
			t.Errorf("%q: %v", open, f)
		}
	}
}

// TestMany: 65536 names, constants, prefixes, paths and signs may be met; brackets and U are not counted. P19.6.
func TestMany(t *testing.T) {
	a := newAsker(t)
	const most = 65536
	for _, sign := range []string{"&", "|", "->", "<->"} {
		row := strings.Repeat("a"+sign, most/2-1) // an even number
		for _, end := range []string{"a", "!a", "(((a)))", "!true", "!!a", "a" + sign, "a" + sign + "a", "EX", "E[a U a]", "#", "y", "!y", "!!y", "a" + sign + "y"} {
			a.judges(row + end)
		}
	}
	path := "E[a U a]" // three
	text := strings.Repeat(path+"&", most/4-1) + path
	a.judges(text)
	a.judges(text + "&a")
	a.judges(text + "|((a))")
	a.judges(text + "&aa")
	a.judges(strings.Repeat("a&", most/2-32) + strings.Repeat("!", 62) + "a")
	a.judges(strings.Repeat("a&", most/2-32) + strings.Repeat("!", 63) + "a")
	a.judges(strings.Repeat("a&", most/2-32) + strings.Repeat("!", 64) + "a")
	a.judges(strings.Repeat("a&", most/2-32) + strings.Repeat("!", 65) + "a") // ErrDeep and ErrMany at one token
	a.judges(strings.Repeat("a&", most/2) + strings.Repeat("!", 65) + "a")
}

// TestLong: a text of as many bytes as there may be, and of one more. P19.6.
func TestLong(t *testing.T) {
	a := newAsker(t)
	const most = 1 << 20
	for _, n := range []int{most - 1, most, most + 1, 3 * most} {
		if right := a.judges("a" + strings.Repeat(" ", n-1)); right != (n <= most) {
			t.Errorf("%d bytes: %v", n, right)
		}
		a.judges(strings.Repeat("\n", n-1) + "#")
		a.judges(strings.Repeat("x", n))
		a.judges(strings.Repeat("\xff", n))
	}
	long := strings.Repeat("x", most)
	if h, f := reach.Holds(a.e, a.steps, []string{long}, a.sets[:1], long); h == 0 || f != (api.Fault{}) {
		t.Errorf("a name of %d bytes: %v", most, f)
	}
	if h, f := reach.Holds(a.e, a.steps, []string{long + long}, a.sets[:1], "true"); h == 0 || f != (api.Fault{}) {
		t.Errorf("a name of %d bytes: %v", 2*most, f)
	}
}

// TestNames: what is a name, and what is none. Step 1.
func TestNames(t *testing.T) {
	a := newAsker(t)
	one := a.sets[:1]
	for _, name := range []string{"", " ", "a ", " a", "a b", "1", "1a", "a-b", "a.b", "é", "aé", "a\n", "!", "(", "true", "false", "EX", "EF", "EG", "AX", "AF", "AG", "E", "A", "U", "a\x00", "\xff"} {
		for _, text := range []string{"true", name, "#"} {
			if h, f := reach.Holds(a.e, a.steps, []string{name}, one, text); h != 0 || f != (api.Fault{Code: api.ErrArg}) {
				t.Errorf("name %q: %d, %v", name, h, f)
			}
		}
	}
	for _, name := range []string{"a", "Z", "_", "_1", "x_9Y", "TRUE", "True", "ex", "Ex", "EXX", "EX1", "EX_", "AA", "EE", "UU", "U1", "u", "X", "F", "trueish", strings.Repeat("q", 1000)} {
		if h, f := reach.Holds(a.e, a.steps, []string{name}, one, "EX "+name+"&!"+name); h == 0 || f != (api.Fault{}) {
			t.Errorf("name %q: %d, %v", name, h, f)
		}
	}
	for i, c := range []struct {
		names []string
		sets  []int
	}{{[]string{"a"}, nil}, {nil, one}, {[]string{"a", "b"}, one}, {[]string{"a"}, a.sets}, {[]string{"a", "b", "a"}, a.sets}, {[]string{"a", "a"}, a.sets[:2]}, {[]string{"a", "EX"}, a.sets[:2]}} {
		if h, f := reach.Holds(a.e, a.steps, c.names, c.sets, "true"); h != 0 || f != (api.Fault{Code: api.ErrArg}) {
			t.Errorf("names %d: %d, %v", i, h, f)
		}
	}
}

// TestManyNames: more of them than there are handles, each of the one set or of the other. P19.6.
func TestManyNames(t *testing.T) {
	a := newAsker(t)
	other := a.putSet(set{false, true})
	var names []string
	var sets []int
	for i := range 5000 {
		names = append(names, fmt.Sprint("n", i))
		sets = append(sets, []int{a.sets[0], other}[i%2])
	}
	calls := a.d.Counts().Calls
	h, f := reach.Holds(a.e, a.steps, names, sets, "n0 & n4998 | n7 & n9")
	if f != (api.Fault{}) {
		t.Fatalf("Holds: %v", f)
	}
	if all, e := a.e.Count(h); e != api.OK || all.Int64() != 4 {
		t.Errorf("Count: %v, %d", all, e)
	}
	if many := a.d.Counts().Calls - calls; many > 1000 {
		t.Errorf("%d calls of the disk", many) // one that is named again is not read again
	}
}

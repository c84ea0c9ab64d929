package console_test

import (
	"fmt"
	"strings"
	"sync"
	"testing"

	"strata/api"
	"strata/bench"
	"strata/console"
)

// anyOpened are lines for a console with an engine: most often one for the engine, sometimes troubles and a disk that they befall.
func anyOpened(d *bench.Dice, vars, handles int) []string {
	if d.Below(15) == 0 {
		return []string{fmt.Sprint("fault ", 20+d.Below(300)), fmt.Sprint("cut ", 20+d.Below(600), " ", d.Below(99)-9), "power"}
	}
	all := known()
	g := all[d.Below(len(all))]
	for g.when != anEngine && d.Below(12) > 0 || strings.HasPrefix(g.form, "free") && d.Below(2) == 0 {
		g = all[d.Below(len(all))]
	}
	return []string{anyLine(d, g.form, vars, handles)}
}

// goesOn obeys lines behind which there is an engine again, whatever has befallen it.
func (p *pair) goesOn(vars, budget int) {
	p.Helper()
	for p.twin.d == nil || !p.twin.d.On() || p.twin.e == nil {
		if p.twin.d == nil || !p.twin.d.On() {
			p.does("power")
		}
		if _, e := p.does(fmt.Sprintf("open %d %d 1099511627776", vars, budget)); e == api.ErrSpoilt {
			p.Fatal("no bit was turned of a catalog")
		}
	}
}

// TestAnyScript: scripts of any lines answer what direct calls answer, with troubles at any call. W1 to W3, P20.1, P20.2.
func TestAnyScript(t *testing.T) {
	d := bench.Dice(2020)
	answers := map[api.Errno]int{}
	for round := range 60 {
		k, vars := 1+d.Below(4), d.Below(5)+d.Below(2)
		p := newPair(t)
		p.does(fmt.Sprintf("disk %d %d", 32*(k+1), []int{60, 150, 100000}[round%3]))
		for range 120 {
			p.goesOn(vars, 64*k*(1+round%2))
			handles := 3
			if all := p.twin.e.Handles(); len(all) > 0 {
				handles = all[len(all)-1]
			}
			for _, line := range anyOpened(&d, vars, handles) {
				_, e := p.does(line)
				answers[e]++
			}
			if d.Below(9) == 0 {
				p.holds()
			}
		}
		p.holds()
	}
	for _, e := range []api.Errno{api.OK, api.ErrFault, api.ErrOff, api.ErrFull, api.ErrHandle, api.ErrLevel, api.ErrPerm, api.ErrLeaf, api.ErrOdd, api.ErrAbout, api.ErrArg} {
		if answers[e] == 0 {
			t.Errorf("%d was never answered: %v", e, answers)
		}
	}
}

// ran is what Run must answer. P20.3.
func ran(script string) (string, api.Fault) {
	lines := strings.Split(script, "\n")
	if lines[len(lines)-1] == "" {
		lines = lines[:len(lines)-1]
	}
	c, out := console.New(), ""
	for i, line := range lines {
		answer, e := c.Do(line)
		if e == api.ErrScript || e == api.ErrAbout {
			return "", api.Fault{Code: e, At: api.Pos{Line: i + 1, Col: 1}}
		}
		if e != api.OK {
			answer = fmt.Sprintf("error %d", e)
		}
		if text := strings.TrimLeft(line, " "); text != "" && text[0] != '#' {
			out += answer + "\n"
		}
	}
	return out, api.Fault{}
}

// TestRun: what scripts answer, word by word. P20.3.
func TestRun(t *testing.T) {
	at := func(e api.Errno, line int) api.Fault { return api.Fault{Code: e, At: api.Pos{Line: line, Col: 1}} }
	const begin = "disk 64 1000\npower\nopen 2 64 9\n"
	for _, x := range []struct {
		script, want string
		f            api.Fault
	}{
		{"", "", api.Fault{}}, {"\n", "", api.Fault{}}, {"\n\n\n", "", api.Fault{}}, {"#", "", api.Fault{}}, {"  \n # x\x80\n", "", api.Fault{}},
		{"disk 64 1", "\n", api.Fault{}}, {"disk 64 1\n", "\n", api.Fault{}}, {"disk 64 1\n\n", "\n", api.Fault{}}, {"\n\ndisk 64 1", "\n", api.Fault{}}, {"disk 63 1\ndisk 64 1\n", "error 1\n\n", api.Fault{}},
		{begin, "\n\n\n", api.Fault{}}, {begin + "var 0\n # no\n\nhandles", "\n\n\n1\n1\n", api.Fault{}}, {begin + "var 7\nnot 1\nformula (\nhandles\nfirst 1", "\n\n\nerror 3\nerror 180\nerror 131\nnone\nerror 180\n", api.Fault{}},
		{begin + "formula x0 ∧ x1\ncount 1\n", "\n\n\n1\n1\n", api.Fault{}}, {begin + "  var   0  \n", "\n\n\n1\n", api.Fault{}}, {begin + "fault 0\npower\nopen 2 64 9\nopen 2 64 9\ncut 0 0\npower\nopen 2 64 9\ncounts", "\n\n\n\n\nerror 9\n\n\n\nerror 10\ncalls 1 reads 0 appends 0 faults 0 full 0 used 3 most 3\n", api.Fault{}},
		{"frob", "", at(api.ErrScript, 1)}, {"\n\nfrob\nfrob", "", at(api.ErrScript, 3)}, {"power", "", at(api.ErrAbout, 1)}, {"# x\ndisk 64 1\ndisk 64 1\nfrob\n", "", at(api.ErrAbout, 3)}, {"disk 64 1\npower\r\n", "", at(api.ErrScript, 2)},
		{begin + "var 0\nvar 9\nvar\nvar 0\n", "", at(api.ErrScript, 6)}, {begin + "open 2 64 9", "", at(api.ErrAbout, 4)}, {begin + "power\nvar 0", "", at(api.ErrAbout, 5)}, {"\t", "", at(api.ErrScript, 1)}, {"disk 64 1\n\x00", "", at(api.ErrScript, 2)},
	} {
		if got, f := console.Run(x.script); got != x.want || f != x.f {
			t.Errorf("%q: %q, %v, want %q, %v", x.script, got, f, x.want, x.f)
		}
		if got, f := ran(x.script); got != x.want || f != x.f {
			t.Errorf("line by line %q: %q, %v", x.script, got, f)
		}
	}
}

// TestRunsOfAnyLines: scripts of any lines, the wrong ones among them. P20.3.
func TestRunsOfAnyLines(t *testing.T) {
	d := bench.Dice(3)
	done, refused := 0, 0
	for range 200 {
		vars := d.Below(4)
		lines := []string{"disk 96 3000", "power", fmt.Sprintf("open %d 128 1000", vars)}
		for range d.Below(40) {
			line := anyLine(&d, known()[8+d.Below(len(known())-8)].form, vars, 5)
			if d.Below(40) == 0 {
				line = bent(&d, line)
			}
			lines = append(lines, line)
			for range d.Below(3) / 2 {
				lines = append(lines, []string{"", "  ", "# no", "power", fmt.Sprintf("open %d 128 1000", vars)}[d.Below(40)%5*d.Below(2)])
			}
		}
		script := strings.Join(lines, "\n") + strings.Repeat("\n", d.Below(3))
		want, no := ran(script)
		got, f := console.Run(script)
		if got != want || f != no {
			t.Fatalf("%q: %q, %v, want %q, %v", script, got, f, want, no)
		}
		if f == (api.Fault{}) {
			done++
		} else {
			refused++
		}
	}
	if done < 20 || refused < 20 {
		t.Errorf("%d done, %d refused", done, refused)
	}
}

// TestLongScripts: just as long as may be, of as many lines as may be. P20.3.
func TestLongScripts(t *testing.T) {
	if got, f := console.Run(strings.Repeat("\n", api.MaxText)); got != "" || f != (api.Fault{}) {
		t.Errorf("empty lines: %q, %v", got, f)
	}
	if got, f := console.Run(strings.Repeat("\n", api.MaxText-4) + "frob"); got != "" || f != (api.Fault{Code: api.ErrScript, At: api.Pos{Line: api.MaxText - 3, Col: 1}}) {
		t.Errorf("behind many lines: %q, %v", got, f)
	}
	const ahead, line = "disk 64 9\n", "fault 1\n"
	many := (api.MaxText - len(ahead)) / len(line)
	if got, f := console.Run(ahead + strings.Repeat(line, many)); got != strings.Repeat("\n", many+1) || f != (api.Fault{}) {
		t.Errorf("many lines: %d bytes, %v", len(got), f)
	}
	for _, script := range []string{strings.Repeat("\n", api.MaxText+1), "frob" + strings.Repeat(" ", api.MaxText), strings.Repeat("#", api.MaxText+1)} {
		if got, f := console.Run(script); got != "" || f != (api.Fault{Code: api.ErrLong}) {
			t.Errorf("too long: %q, %v", got, f)
		}
	}
}

// TestTwoConsoles: they know nothing of each other, turn by turn and at one time. P20.4.
func TestTwoConsoles(t *testing.T) {
	scripts := []string{
		"disk 64 1000;power;open 2 64 9;var 0;var 1;apply xor 1 2;order 1 0;levels;handles;dump 3;counts",
		"disk 96 500;fault 3;power;open 3 128 9;open 3 128 9;formula x0 -> x1 & x2;count 1;free 1;free 1;handles;levels;files",
		"power;open 1 1 1;disk 63 1;disk 4096 9;handles;power;files;spoil x 0 0",
	}
	told := func(c *console.Console, line string) string {
		answer, e := c.Do(line)
		return fmt.Sprint(answer, "|", e)
	}
	alone := make([][]string, len(scripts))
	for i, s := range scripts {
		c := console.New()
		for _, line := range strings.Split(s, ";") {
			alone[i] = append(alone[i], told(c, line))
		}
	}
	consoles := []*console.Console{console.New(), console.New(), console.New()}
	for turn := range 12 {
		for i, s := range scripts {
			if lines := strings.Split(s, ";"); turn < len(lines) {
				if got := told(consoles[i], lines[turn]); got != alone[i][turn] {
					t.Errorf("%s: %s, alone %s", lines[turn], got, alone[i][turn])
				}
			}
		}
	}
	var all sync.WaitGroup
	for n := range 30 {
		all.Go(func() {
			i, c := n%len(scripts), console.New()
			for j, line := range strings.Split(scripts[i], ";") {
				if got := told(c, line); got != alone[i][j] {
					t.Errorf("at one time: %s: %s, alone %s", line, got, alone[i][j])
				}
			}
		})
	}
	all.Wait()
}

// TestUnlikeDisks: blocks and budgets change no answer but those that tell of them. W3.
func TestUnlikeDisks(t *testing.T) {
	d := bench.Dice(33)
	for round := range 20 {
		vars := d.Below(5)
		consoles := []*console.Console{console.New(), console.New(), console.New()}
		for i, c := range consoles {
			k := []int{1, 3, 40}[i]
			obeys(t, c, fmt.Sprintf("disk %d 1000000;power;open %d %d 1000", 32*(k+1), vars, 64*k*(1+i*round)))
		}
		for handles := range 60 {
			g := known()[8+d.Below(len(known())-8)]
			line := anyLine(&d, g.form, vars, 1+handles/2)
			if strings.Contains(line, "peak") {
				continue
			}
			want, no := consoles[0].Do(line)
			for _, c := range consoles[1:] {
				is(t, c, line, want, no)
			}
		}
	}
}

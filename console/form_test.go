package console_test

import (
	"strings"
	"testing"

	"strata/api"
	"strata/bench"
	"strata/console"
)

// TestEachForm: lines of each form, and those bent, on a console that has nothing: what is no line is ErrScript, all others are not for now (but disk). P20.1.
func TestEachForm(t *testing.T) {
	d := bench.Dice(20)
	right, wrong := 0, 0
	for _, g := range known() {
		for range 400 {
			line := anyLine(&d, g.form, d.Below(7), 9)
			p := newPair(t)
			if _, e := p.does(line); e == api.ErrScript {
				t.Fatalf("%q is a line", line)
			}
			for range d.Below(3) + 1 {
				line = bent(&d, line)
			}
			p = newPair(t)
			if _, e := p.does(line); e == api.ErrScript {
				wrong++
			} else {
				right++
			}
			p.holds()
		}
	}
	if right < 1000 || wrong < 5000 {
		t.Errorf("%d right ones, %d wrong ones", right, wrong)
	}
}

// wrongLines are of no form.
var wrongLines = []string{
	"x", "X", "disk64 64", "DISK 64 1", "Var 1", "variable 1", "var", "var 1 1", "var -1", "var +1", "var 01", "var 1.0", "var 1e1", "var 0x1", "var 1_0", "var x", "var 1=1", "var -0", "var 00", "var 1234567890123456789", "var 0000000000000000001",
	"var\t1", "var 1\t", "\tvar 1", "var\n1", "var 1\n", "var 1\r", "var \x001", "var 1\x7f", "var 1\x80", "var é", "var 1 # one", "var 1#", "var # 1",
	"disk", "disk 64", "disk 64 1 1", "disk -64 1", "disk 64 -1", "fault", "fault -1", "fault 1 1", "fault x", "cut", "cut 1", "cut -1 1", "cut 1 -0", "cut 1 -01", "cut 1 +1", "cut 1 --1", "cut 1 -", "cut 1 1 1", "cut 1 1234567890123456789", "cut 1 -1234567890123456789",
	"power 1", "power on", "open", "open 1", "open 1 1", "open 1 1 1 1", "open 1 64 -1", "counts 1", "files 1", "spoil", "spoil x", "spoil x 1", "spoil x 1 1 1", "spoil x y 1", "spoil x 1 -1", "spoil é 1 1", "spoil x\x01 1 1",
	"const", "const 2", "const 00", "const -0", "const true", "const 1 1", "cube 1", "cube =", "cube =1", "cube 1=", "cube 1=2", "cube 1=01", "cube -1=0", "cube 01=0", "cube 1=1=1", "cube 1 =1", "cube 1= 1", "cube 1=0 x", "cube 1234567890123456789=0", "cube 1=1 :", "cube :",
	"formula", "formula ", "formula    ", "formulax0", "formula\tx0", "formula\x80 x0", "cnf", "cnf  ", "cnf p cnf 1 1/1 0\t", "cnf p\tcnf 1 1", "cnf \x80", "cnf p cnf 0 0\n", "load", "load   ", "load \x7f", "load strata 1\nlevels 0",
	"not", "not x", "not 1 1", "apply", "apply and", "apply and 1", "apply and 1 1 1", "apply 1 1", "apply 8 1 1", "apply AND 1 1", "apply And 1 1", "apply xnor 1 1", "apply zero 1 1", "apply one 1 1", "apply 1 and 1", "apply and x 1", "apply and 1 -1",
	"ite", "ite 1", "ite 1 1", "ite 1 1 1 1", "restrict", "restrict x", "restrict 0=1", "restrict 1 1", "restrict 1 0=1 1", "exists", "exists x", "exists 1 x", "exists 1 0=1", "exists 1 :", "forall", "forall 1 -1", "compose", "compose 1", "compose 1 1", "compose 1 1 1 1", "rename", "rename 1 x", "rename 1 1 01", "copy", "copy 1 1",
	"free", "free 1 1", "free -1", "swap", "swap -1", "swap 1 1", "order x", "order 0 1 -1", "order 0,1", "sift 1", "levels 1", "handles 1", "count", "count 1 1", "nodes", "nodes 1 1", "support", "support 1 1", "equal", "equal 1", "equal 1 1 1", "file", "file x", "file dd-0000000000000001", "density", "density 1 1", "first", "first 1 1",
	"eval", "eval 1", "eval 01", "eval 1 2", "eval 1 0 1", "eval 1 0-", "eval 1 -0", "eval 1 --", "eval 1 0x", "eval x 0", "eval 1 t", "dump", "dump 1 1", "peak 1",
	"post", "post 1", "post 1 1 1", "pre", "pre 1", "pre 1 1 1", "reach", "reach 1", "reach 1 1 1", "until", "until 1 1", "until 1 1 1 1", "always", "always 1", "always 1 1 1", "trace", "trace 1 1", "trace 1 1 1 1",
	"holds", "holds 1", "holds 1 :", "holds 1 : ", "holds : a", "holds 1 a", "holds 1 a=1", "holds 1 a=1 a", "holds 1 a=1 :", "holds 1 a=1 :a", "holds 1 a=1: a", "holds 1 A=1 : a", "holds 1 a1=1 : a", "holds 1 a_=1 : a", "holds 1 =1 : a", "holds 1 a= : a", "holds 1 a : a", "holds 1 a=x : a", "holds 1 a=-1 : a", "holds 1 a=01 : a", "holds 1 a=1=1 : a", "holds 1 a=1 b : a", "holds x : a", "holds 1 1 : a", "holds 1 é=1 : a", "holds 1 a\t=1 : a", "holds 1\t: a", "holds 1 :\ta",
}

// TestWrongForms: each is ErrScript whatever the console has, and nothing is changed.
func TestWrongForms(t *testing.T) {
	lines := append(wrongLines, "holds 1 "+strings.Repeat("a", 33)+"=1 : true", "free "+strings.Repeat("1", 1000), "var "+strings.Repeat("9", 19), "cut 1 -"+strings.Repeat("9", 19))
	for b := range 256 {
		if b < 32 || b > 126 {
			lines = append(lines, "count 1"+string([]byte{byte(b)}), "cube 0=1 "+string([]byte{byte(b)}), "spoil "+string([]byte{byte(b)})+" 0 0", "load strata"+string([]byte{byte(b)}))
		}
	}
	for _, ahead := range []string{"", "disk 64 1000", "disk 64 1000;power", "disk 64 1000;power;open 2 64 100;var 0"} {
		c := console.New()
		if ahead != "" {
			obeys(t, c, ahead)
		}
		was := c.State()
		for _, line := range lines {
			is(t, c, line, "", api.ErrScript)
			is(t, c, "  "+line+" ", "", api.ErrScript)
		}
		if !sameState(was, c.State()) {
			t.Error("something has changed")
		}
	}
}

// TestIdle: a line that does nothing is always right.
func TestIdle(t *testing.T) {
	for _, c := range []*console.Console{console.New(), begun(t, 1)} {
		for _, line := range []string{"", " ", "     ", "#", " #", "#frob", "# \x00\x80\xff\n\t", "   # open 1 64 1", "#\nvar 0", strings.Repeat(" ", api.MaxText), "#" + strings.Repeat("x", api.MaxText-1)} {
			is(t, c, line, "", api.OK)
		}
	}
	is(t, begun(t, 1), "handles", "none", api.OK)
}

// TestLong: of what is too long nothing else is looked at. P20.1.
func TestLong(t *testing.T) {
	for _, c := range []*console.Console{console.New(), begun(t, 2)} {
		for _, line := range []string{"", "#", "frob", "var 0", "formula x0", "disk 64 1"} {
			is(t, c, line+strings.Repeat(" ", api.MaxText+1-len(line)), "", api.ErrLong)
			is(t, c, strings.Repeat(" ", api.MaxText+1-len(line))+line, "", api.ErrLong)
		}
	}
	c := begun(t, 2)
	fill := func(line string) string { return strings.Repeat(" ", api.MaxText-len(line)) }
	is(t, c, "var 0"+fill("var 0"), "1", api.OK)
	is(t, c, fill("var 1")+"var 1", "2", api.OK)
	is(t, c, "apply xor"+fill("apply xor1 2")+"1 2", "3", api.OK)
	is(t, c, "formula x0 # "+strings.Repeat("é", (api.MaxText-len("formula x0 # "))/2), "4", api.OK)
	is(t, c, "holds 1"+fill("holds 1: true")+": true", "5", api.OK)
	is(t, c, "eval 1 "+strings.Repeat("1", api.MaxText-len("eval 1 ")), "", api.ErrArg)
}

// TestRests: what the rest of a line is, and which bytes it may hold. P20.1.
func TestRests(t *testing.T) {
	c := begun(t, 2)
	for _, x := range []struct {
		line, want string
		e          api.Errno
	}{
		{"formula x0 & x1", "1", api.OK}, {"  formula    x0&x1   ", "2", api.OK}, {"formula x0 ∧ x1", "3", api.OK}, {"formula \tx0\n&\rx1\t", "4", api.OK}, {"formula x0 & x1 # \x80\xff\x00", "5", api.OK}, {"formula # no\nx0 & x1", "6", api.OK},
		{"formula # no", "", api.ErrToken}, {"formula \t", "", api.ErrToken}, {"formula \x80", "", api.ErrByte}, {"formula \x00", "", api.ErrByte}, {"formula x2", "", api.ErrLevel}, {"formula x99999", "", api.ErrNumber}, {"formula : x0", "", api.ErrToken},
		{"cnf p cnf 2 2/1 0/2 0", "7", api.OK}, {"cnf p cnf 2 2/1 0 2 0/", "8", api.OK}, {"cnf c x/c/p   cnf 2 2 /1/0/2/0//", "9", api.OK}, {"cnf p cnf 2 2 1 0", "", api.ErrHead}, {"cnf p cnf 3 0", "", api.ErrLevel}, {"cnf p cnf 2 1/3 0", "", api.ErrLevel}, {"cnf x~", "", api.ErrHead}, {"cnf p~cnf~2~0", "", api.ErrHead}, {"cnf p cnf 2 1/1~0", "", api.ErrNumber}, {"formula x0 / x1", "", api.ErrByte}, {"formula x0/", "", api.ErrByte}, {"holds 1 : true/", "", api.ErrCtl}, {"holds 1 : true~", "", api.ErrCtl},
		{"load strata 1/levels 2/nodes 2/1:0 F T/0:0 F 1:0/root 0:0/", "10", api.OK}, {"load strata~1/levels~2/nodes~2/1:0~F~T/0:0~F~1:0/root~0:0/", "11", api.OK}, {"load   strata 1/levels~2/nodes 2/1:0~F T/0:0 F~1:0/root 0:0/  ", "12", api.OK},
		{"load strata 1/levels 2/nodes 0/root T", "", api.ErrText}, {"load strata  1/levels 2/nodes 0/root T/", "", api.ErrText}, {"load strata 1/levels 2/nodes 0/root T/~", "", api.ErrText}, {"load strata 1/levels 3/nodes 0/root T/", "", api.ErrVars},
		{"holds 1 : true", "13", api.OK}, {"holds 1 : \ttrue\n", "14", api.OK}, {"holds 13 a=13 b=13 : a & b", "15", api.OK}, {"  holds   13   a=13   :   a  ", "16", api.OK}, {"holds 13 a=13 : a : a", "", api.ErrCtl}, {"holds 13 a=13 : : a", "", api.ErrCtl}, {"holds 13 a=13 : \x80", "", api.ErrCtl}, {"holds 13 a=13 : ∧", "", api.ErrCtl},
		{"holds 13 a=13 a=13 : a", "", api.ErrArg}, {"holds 13 true=13 : true", "", api.ErrArg}, {"holds 13 a=99 : a", "", api.ErrHandle}, {"holds 99 a=13 : a", "", api.ErrHandle}, {"holds 13 a=1 : a", "", api.ErrOdd},
		{"holds 13 " + strings.Repeat("z", 32) + "=13 : " + strings.Repeat("z", 32), "17", api.OK},
	} {
		is(t, c, x.line, x.want, x.e)
	}
	for _, h := range []string{"2", "3", "4", "5", "6", "7", "8", "9", "10", "11", "12"} {
		is(t, c, "equal 1 "+h, "yes", api.OK)
	}
	for _, h := range []string{"14", "15", "16", "17"} {
		is(t, c, "equal 13 "+h, "yes", api.OK)
	}
	is(t, c, "count 13", "4", api.OK)
}

// TestNumbers: those of most digits are handed on as they are.
func TestNumbers(t *testing.T) {
	const most = "999999999999999999"
	c := console.New()
	is(t, c, "disk 64 "+most, "", api.ErrArg)
	is(t, c, "disk "+most+" 1", "", api.ErrArg)
	is(t, c, "disk 0 0", "", api.ErrArg)
	is(t, c, "disk 64 1099511627776", "", api.OK)
	is(t, c, "fault "+most, "", api.OK)
	is(t, c, "cut "+most+" -"+most, "", api.OK)
	is(t, c, "power", "", api.OK)
	is(t, c, "open "+most+" 64 1", "", api.ErrArg)
	is(t, c, "open 1 "+most+" "+most, "", api.ErrArg)
	is(t, c, "open 1 "+most+" 1099511627776", "", api.OK)
	is(t, c, "var "+most, "", api.ErrLevel)
	is(t, c, "var 0", "1", api.OK)
	is(t, c, "cube "+most+"=1", "", api.ErrLevel)
	is(t, c, "free "+most, "", api.ErrHandle)
	is(t, c, "free 0", "", api.ErrHandle)
	is(t, c, "swap "+most, "", api.ErrLevel)
	is(t, c, "order "+most, "", api.ErrPerm)
	is(t, c, "rename 1 "+most, "", api.ErrLevel)
	is(t, c, "spoil cat-0000000000000002 "+most+" 0", "", api.ErrBlock)
	is(t, c, "spoil cat-0000000000000002 0 "+most, "", api.ErrBlock)
	is(t, c, "spoil CAT 0 0", "", api.ErrName)
	is(t, c, "spoil cat 0 0", "", api.ErrNoFile)
	is(t, c, "equal 1 1", "yes", api.OK)
}

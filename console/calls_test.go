package console_test

import (
	"strconv"
	"strings"
	"testing"

	"strata/api"
	"strata/console"
)

func itoa(n int) string { return strconv.Itoa(n) }

// calls is how many numbered calls the disk has counted.
func calls(t *testing.T, c *console.Console) int {
	t.Helper()
	words := strings.Fields(obeys(t, c, "counts"))
	n, err := strconv.Atoi(words[1])
	if err != nil {
		t.Fatal(err)
	}
	return n
}

// TestAnswers: each line's answer, as the table writes it.
func TestAnswers(t *testing.T) {
	for _, script := range [][][2]string{
		{{"disk 128 50", ""}, {"power", ""}, {"files", "none"}, {"counts", "calls 0 reads 0 appends 0 faults 0 full 0 used 0 most 0"}, {"open 3 192 100", ""}, {"files", "cat-0000000000000001 2"}, {"peak", "3"},
			{"counts", "calls 4 reads 0 appends 2 faults 0 full 0 used 2 most 2"}, {"const 0", "1"}, {"const 1", "2"}, {"files", "cat-0000000000000003 2, dd-0000000000000001 1, dd-0000000000000002 1"},
			{"spoil dd-0000000000000001 0 1023", ""}, {"spoil dd-0000000000000001 0 1023", ""}, {"equal 1 2", "no"}},
		{{"disk 64 100000", ""}, {"power", ""}, {"open 3 64 100", ""}, {"levels", "0 1 2"}, {"handles", "none"},
			{"var 1", "1"}, {"const 1", "2"}, {"const 0", "3"}, {"cube 2=0 0=1", "4"}, {"cube", "5"}, {"formula x0 | x1", "6"}, {"cnf p cnf 3 2/1 2 0/-3 0", "7"}, {"load strata 1/levels 3/nodes 1/1:0 F T/root 1:0/", "8"},
			{"equal 1 8", "yes"}, {"equal 2 5", "yes"}, {"first 4", "100"}, {"count 4", "2"}, {"count 6", "6"}, {"count 7", "3"}, {"count 3", "0"},
			{"not 1", "9"}, {"first 9", "000"}, {"ite 1 4 6", "10"}, {"restrict 6 0=0", "11"}, {"equal 11 1", "yes"}, {"exists 4 2 0", "12"}, {"equal 12 2", "yes"}, {"forall 6 0", "13"}, {"equal 13 1", "yes"}, {"exists 4", "14"}, {"equal 14 4", "yes"},
			{"compose 6 0 9", "15"}, {"equal 15 2", "yes"}, {"rename 4 1 0 2", "16"}, {"first 16", "010"}, {"copy 4", "17"}, {"file 17", "dd-0000000000000004"}, {"file 16", "dd-0000000000000010"},
			{"support 6", "0 1"}, {"support 2", "none"}, {"nodes 6", "2"}, {"nodes 3", "0"}, {"density 6", "0.75"}, {"density 2", "1"}, {"density 3", "0"},
			{"eval 4 100", "1"}, {"eval 4 101", "0"}, {"dump 4", "strata 1/levels 3/nodes 2/2:0 T F/0:0 F 2:0/root 0:0/"},
			{"free 4", ""}, {"swap 1", ""}, {"levels", "0 2 1"}, {"dump 17", "strata 1/levels 3/nodes 2/1:0 T F/0:0 F 1:0/root 0:0/"}, {"order 2 1 0", ""}, {"levels", "2 1 0"}, {"first 6", "100"}, {"first 17", "100"}, {"eval 17 100", "1"},
			{"handles", "1 2 3 5 6 7 8 9 10 11 12 13 14 15 16 17"}},
		{{"disk 64 100000", ""}, {"power", ""}, {"open 6 64 100", ""}, {"formula x0 & x3 | x1 & x4 | x2 & x5", "1"}, {"nodes 1", "14"}, {"sift", ""}, {"nodes 1", "6"}, {"count 1", "37"}, {"density 1", "0.578125"}},
		{{"disk 64 100000", ""}, {"power", ""}, {"open 4 64 100", ""}, {"formula (x1 <-> !x0) & (x3 <-> (x2 ^ x0))", "1"}, {"cube 0=0 2=0", "2"}, {"cube 0=0 2=1", "3"}, {"cube 2=0", "4"}, {"const 1", "5"}, {"const 0", "6"},
			{"post 1 2", "7"}, {"first 7", "1000"}, {"count 7", "4"}, {"pre 1 2", "8"}, {"first 8", "1010"}, {"reach 1 2", "9 3"}, {"equal 9 5", "yes"}, {"reach 1 6", "10 0"}, {"equal 10 6", "yes"}, {"until 1 4 3", "11"}, {"count 11", "12"},
			{"always 1 4", "12"}, {"equal 12 6", "yes"}, {"always 1 5", "13"}, {"equal 13 5", "yes"}, {"trace 1 2 3", "00 10 01"}, {"trace 1 2 2", "00"}, {"holds 1 z=2 : AG EF z", "14"}, {"equal 14 5", "yes"}, {"holds 1 z=2 y=3 : EX y & !z", "15"}, {"first 15", "1000"}},
		{{"disk 64 1000", ""}, {"power", ""}, {"open 0 64 1", ""}, {"levels", "none"}, {"handles", "none"}, {"const 1", "1"}, {"formula true", "2"}, {"cube", "3"}, {"first 1", "-"}, {"eval 1 -", "1"}, {"support 1", "none"}, {"count 1", "1"}, {"order", ""}, {"sift", ""}, {"rename 1", "4"}, {"exists 1", "5"}, {"forall 1", "6"}, {"restrict 1", "7"},
			{"trace 1 1 1", "-"}, {"reach 1 1", "8 0"}, {"dump 8", "strata 1/levels 0/nodes 0/root T/"}, {"handles", "1 2 3 4 5 6 7 8"}},
	} {
		c := console.New()
		for _, x := range script {
			is(t, c, x[0], x[1], api.OK)
		}
	}
}

// TestOperators: the name of each, by its truths.
func TestOperators(t *testing.T) {
	c := begun(t, 2)
	obeys(t, c, "var 0;var 1")
	for op, name := range strings.Fields(operatorNames) {
		h := obeys(t, c, "apply "+name+" 1 2")
		for x := range 4 {
			is(t, c, "eval "+h+" "+itoa(x/2)+itoa(x%2), itoa(op>>x&1), api.OK)
		}
	}
}

// TestGreatNumbers: a count of more digits than an int has, and a density of few.
func TestGreatNumbers(t *testing.T) {
	c := begun(t, 200)
	obeys(t, c, "const 1;cube 0=1;formula x0 & x199 & x100")
	is(t, c, "count 1", "1606938044258990275541962092341162602522202993782792835301376", api.OK)
	is(t, c, "count 2", "803469022129495137770981046170581301261101496891396417650688", api.OK)
	is(t, c, "density 3", "0.125", api.OK)
	var all []string
	for v := range 200 {
		all = append(all, itoa(v)+"=1")
	}
	obeys(t, c, "cube "+strings.Join(all, " "))
	is(t, c, "count 4", "1", api.OK)
	is(t, c, "density 4", "6.223015277861142e-61", api.OK)
	is(t, c, "first 4", strings.Repeat("1", 200), api.OK)
}

// TestRefusals: those of the calls, with nothing beside them; a line that is refused changes nothing.
func TestRefusals(t *testing.T) {
	c := begun(t, 3)
	obeys(t, c, "formula x0 & x2;formula x1;const 0")
	was := c.State()
	for _, x := range []struct {
		line string
		e    api.Errno
	}{
		{"var 3", api.ErrLevel}, {"cube 0=1 0=1", api.ErrLevel}, {"cube 3=1", api.ErrLevel}, {"formula x0 &", api.ErrToken}, {"formula x3", api.ErrLevel}, {"cnf p cnf 4 0", api.ErrLevel}, {"cnf x", api.ErrHead}, {"load x", api.ErrText}, {"load strata 1/levels 2/nodes 0/root F/", api.ErrVars},
		{"not 9", api.ErrHandle}, {"not 0", api.ErrHandle}, {"apply and 1 9", api.ErrHandle}, {"ite 1 1 9", api.ErrHandle}, {"restrict 1 0=1 0=0", api.ErrLevel}, {"restrict 9 0=1", api.ErrHandle}, {"exists 1 0 0", api.ErrLevel}, {"forall 1 3", api.ErrLevel}, {"compose 1 3 1", api.ErrLevel}, {"rename 1 0 1", api.ErrArg}, {"rename 1 0 1 0", api.ErrLevel}, {"copy 9", api.ErrHandle},
		{"free 9", api.ErrHandle}, {"swap 2", api.ErrLevel}, {"order 0 1", api.ErrPerm}, {"order 0 1 1", api.ErrPerm}, {"order", api.ErrPerm}, {"count 9", api.ErrHandle}, {"nodes 9", api.ErrHandle}, {"support 9", api.ErrHandle}, {"equal 1 9", api.ErrHandle}, {"file 9", api.ErrHandle}, {"density 9", api.ErrHandle}, {"first 9", api.ErrHandle}, {"first 3", api.ErrLeaf},
		{"eval 1 11", api.ErrArg}, {"eval 1 -", api.ErrArg}, {"eval 9 111", api.ErrHandle}, {"dump 9", api.ErrHandle}, {"post 1 1", api.ErrOdd}, {"pre 9 1", api.ErrHandle}, {"reach 1 9", api.ErrHandle}, {"reach 1 1", api.ErrOdd}, {"until 1 1 1", api.ErrOdd}, {"always 1 1", api.ErrOdd}, {"trace 1 1 1", api.ErrOdd}, {"holds 1 : true", api.ErrOdd}, {"holds 9 : true", api.ErrHandle},
		{"spoil x 0 0", api.ErrNoFile}, {"spoil dd-0000000000000001 9 0", api.ErrBlock}, {"spoil dd-0000000000000001 0 512", api.ErrBlock}, {"spoil X 0 0", api.ErrName}, {"open 3 64 1", api.ErrAbout}, {"disk 64 1", api.ErrAbout},
	} {
		is(t, c, x.line, "", x.e)
		is(t, c, "handles", "1 2 3", api.OK)
		is(t, c, "levels", "0 1 2", api.OK)
	}
	if !sameState(was, c.State()) {
		t.Error("the disk holds something else")
	}
}

// TestFullDisk: what finds no room is told, and Free makes room.
func TestFullDisk(t *testing.T) {
	c := console.New()
	obeys(t, c, "disk 64 40;power;open 3 64 100")
	for range 100 {
		if _, e := c.Do("formula x0 & x1 & x2"); e == api.ErrFull {
			break
		} else if e != api.OK {
			t.Fatal(e)
		}
	}
	is(t, c, "formula x0 & x1 & x2", "", api.ErrFull)
	was := obeys(t, c, "handles")
	is(t, c, "formula x0 & x1 & x2", "", api.ErrFull)
	is(t, c, "handles", was, api.OK)
	obeys(t, c, "free 1;formula x0 & x1 & x2")
}

// TestSpoilt: a turned bit is no answer, and turned back it is one. W8.
func TestSpoilt(t *testing.T) {
	c := begun(t, 2)
	obeys(t, c, "formula x0 ^ x1;spoil dd-0000000000000001 0 77")
	for _, line := range []string{"count 1", "not 1", "dump 1", "swap 0", "post 1 1"} {
		is(t, c, line, "", api.ErrSpoilt)
	}
	obeys(t, c, "spoil dd-0000000000000001 0 77")
	is(t, c, "count 1", "2", api.OK)
	obeys(t, c, "spoil cat-0000000000000002 0 0;power")
	is(t, c, "open 2 64 9", "", api.ErrSpoilt)
	obeys(t, c, "spoil cat-0000000000000002 0 0;open 2 64 9")
	is(t, c, "handles", "1", api.OK)
}

// TestState: it is new memory each time, and that of the disk as it is. P20.2.
func TestState(t *testing.T) {
	c := begun(t, 2)
	obeys(t, c, "var 0")
	st, again := c.State(), c.State()
	if !sameState(st, again) || len(st.Files) != 2 || st.Block != 64 {
		t.Fatalf("%v, %v", st, again)
	}
	st.Files[1].Blocks[0][9]++
	st.Files[0].Name = "x"
	st.Files[0].Blocks[0] = nil
	if !sameState(again, c.State()) {
		t.Error("what was answered was no new memory")
	}
	is(t, c, "count 1", "2", api.OK)
	obeys(t, c, "spoil dd-0000000000000001 0 0")
	now := c.State()
	if now.Files[1].Blocks[0][0] != again.Files[1].Blocks[0][0]^1 {
		t.Error("a turned bit is not told")
	}
}

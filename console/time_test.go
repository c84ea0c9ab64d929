package console_test

import (
	"strings"
	"testing"

	"strata/api"
	"strata/console"
)

// samples are right lines, one of each form, by their time.
var samples = map[string]string{
	noStore:  "disk 64 1000",
	aStore:   "fault 1;cut 1 1;power",
	aDisk:    "counts;files;spoil x 0 0",
	noEngine: "open 2 64 100",
	anEngine: "const 1;var 0;cube;formula x0;cnf p cnf 0 0;load x;not 1;apply or 1 1;ite 1 1 1;restrict 1;exists 1;forall 1;compose 1 0 1;rename 1;copy 1;free 1;swap 0;order;sift;levels;handles;" +
		"count 1;nodes 1;support 1;equal 1 1;file 1;density 1;first 1;eval 1 -;dump 1;peak;post 1 1;pre 1 1;reach 1 1;until 1 1 1;always 1 1;trace 1 1 1;holds 1 : true",
}

// TestTimes: each line, whatever the console has: it is ErrAbout just where the table says so, and changes nothing then. P20.1.
func TestTimes(t *testing.T) {
	had := map[string]string{noStore: "", aStore: "disk 64 1000", noEngine: "disk 64 1000;power", anEngine: "disk 64 1000;power;open 2 64 100"}
	right := map[string][]string{noStore: {noStore}, aStore: {aStore, noEngine, anEngine}, aDisk: {noEngine, anEngine}, noEngine: {noEngine}, anEngine: {anEngine}}
	lines := 0
	for has, ahead := range had {
		for when, list := range samples {
			for _, line := range strings.Split(list, ";") {
				lines++
				c := console.New()
				if ahead != "" {
					obeys(t, c, ahead)
				}
				was := c.State()
				_, e := c.Do(line)
				isRight := false
				for _, x := range right[when] {
					isRight = isRight || x == has
				}
				if isRight == (e == api.ErrAbout) || e == api.ErrScript {
					t.Errorf("%s, on a console that has got to %q: %d", line, has, e)
				}
				if !isRight && !sameState(was, c.State()) {
					t.Errorf("%s, on a console that has got to %q, has changed something", line, has)
				}
			}
		}
	}
	if lines != 4*len(rows()) {
		t.Errorf("%d lines, of %d forms", lines, len(rows()))
	}
}

// TestRefusedBeginnings: a store, a mount and an engine that are refused leave the console as it was.
func TestRefusedBeginnings(t *testing.T) {
	c := console.New()
	for _, line := range []string{"disk 63 10", "disk 32 10", "disk 65568 10", "disk 80 10", "disk 64 1099511627777"} {
		is(t, c, line, "", api.ErrArg)
		is(t, c, "power", "", api.ErrAbout)
	}
	if st := c.State(); st.Block != 0 || len(st.Files) != 0 {
		t.Errorf("without a store: %v", st)
	}
	is(t, c, "disk 96 10", "", api.OK)
	if st := c.State(); st.Block != 96 || len(st.Files) != 0 {
		t.Errorf("a new store: %v", st)
	}
	is(t, c, "disk 64 10", "", api.ErrAbout)
	is(t, c, "power", "", api.OK)
	for _, line := range []string{"open 65537 128 1", "open 1 127 1", "open 1 128 0", "open 1 128 1099511627777"} {
		is(t, c, line, "", api.ErrArg)
		is(t, c, "handles", "", api.ErrAbout)
	}
	is(t, c, "files", "none", api.OK)
	is(t, c, "open 9 128 1", "", api.OK)
	is(t, c, "power", "", api.OK)
	is(t, c, "open 8 128 1", "", api.ErrFew)
	is(t, c, "levels", "", api.ErrAbout)
	is(t, c, "open 9 128 1", "", api.OK)
	is(t, c, "levels", "0 1 2 3 4 5 6 7 8", api.OK)
}

// TestTroublesWait: they befall the next disk alone, the first of several at one number.
func TestTroublesWait(t *testing.T) {
	c := begun(t, 2)
	obeys(t, c, "var 0;fault 0;cut 0 1;fault 1")
	is(t, c, "count 1", "2", api.OK) // not this disk
	is(t, c, "power", "", api.OK)
	is(t, c, "open 2 64 9", "", api.ErrFault) // not the cut
	is(t, c, "open 2 64 9", "", api.ErrFault)
	is(t, c, "open 2 64 9", "", api.OK)
	is(t, c, "power", "", api.OK)
	is(t, c, "open 2 64 9", "", api.OK) // not the disk behind that
	obeys(t, c, "cut 0 1;fault 0;power")
	is(t, c, "open 2 64 9", "", api.ErrOff)
	is(t, c, "open 2 64 9", "", api.ErrOff)
	is(t, c, "counts", "calls 1 reads 0 appends 0 faults 0 full 0 used 6 most 6", api.OK)
	obeys(t, c, "power;open 2 64 9")
	is(t, c, "handles", "1", api.OK)
}

// TestPowerTakesTheEngine: what is mounted anew has none, and holds what was there.
func TestPowerTakesTheEngine(t *testing.T) {
	c := begun(t, 3)
	obeys(t, c, "formula x0 ^ x2;order 2 0 1;copy 1")
	was := c.State()
	is(t, c, "power", "", api.OK)
	for _, line := range []string{"handles", "count 1", "peak", "free 1"} {
		is(t, c, line, "", api.ErrAbout)
	}
	if !sameState(was, c.State()) {
		t.Error("the disk holds something else")
	}
	is(t, c, "open 3 128 100", "", api.OK)
	is(t, c, "levels", "2 0 1", api.OK)
	is(t, c, "handles", "1 2", api.OK)
	is(t, c, "equal 1 2", "yes", api.OK)
}

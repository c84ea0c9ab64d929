package console_test

import (
	"fmt"
	"hash/crc32"
	"strings"
	"testing"

	"strata/api"
	"strata/bench"
	"strata/console"
)

// busy are lines behind which a console has something of each kind.
const busy = "disk 96 100000;power;open 4 128 1000;formula (x1 <-> !x0) & (x3 <-> (x2 ^ x0));cube 0=0 2=0;cube 0=0 2=1;copy 2;const 1;order 2 0 3 1;free 3;formula !x0 & x2"

const opens = "open 4 128 1000"

// oneOfEach are lines for it that need the disk.
const oneOfEach = "const 0;var 3;cube 0=1 3=0;formula x0 ^ x3;cnf p cnf 4 2/1 -4 0/2 3 0;load strata 1/levels 4/nodes 1/3:0 F T/root 3:0/;not 1;apply or 1 2;ite 1 2 6;restrict 1 0=1;exists 1 1 3;forall 1 0;compose 1 0 2;rename 2 2 1 0 3;copy 1;" +
	"free 1;free 2;swap 1;order 0 1 2 3;sift;count 1;nodes 1;support 1;equal 1 2;density 1;first 1;eval 1 0110;dump 1;post 1 2;pre 1 2;reach 1 2;until 1 5 6;always 1 5;trace 1 2 6;holds 1 z=2 : AG EF z"

// shown is all that a console tells of what it holds, the numbers of its files aside.
func shown(t *testing.T, c *console.Console) string {
	t.Helper()
	all := []string{obeys(t, c, "levels"), obeys(t, c, "handles")}
	for _, h := range strings.Fields(all[1]) {
		if h != "none" {
			all = append(all, obeys(t, c, "dump "+h))
		}
	}
	return strings.Join(all, "|")
}

// with is a busy console whose disk has these troubles, in lines; opened again.
func with(t *testing.T, troubles string) *console.Console {
	t.Helper()
	c := console.New()
	obeys(t, c, busy+troubles+";power;"+opens)
	return c
}

// TestEachTrouble: a fault at each call of each line, and the power off there: it is told, and the handles are as ahead of the line or as behind it. W1, W6, W7.
func TestEachTrouble(t *testing.T) {
	plain := with(t, "")
	from, ahead := calls(t, plain), shown(t, plain)
	for _, line := range strings.Split(oneOfEach, ";") {
		c := with(t, "")
		want, e := c.Do(line)
		if e != api.OK {
			t.Fatalf("%s: %d", line, e)
		}
		to, behind := calls(t, c), shown(t, c)
		step := 1 + (to-from)/60
		seen := map[string]int{}
		for at := from; at < to; at += step {
			c := with(t, fmt.Sprintf(";fault %d", at))
			if got, e := c.Do(line); e == api.OK && (got != want || shown(t, c) != behind) || e != api.OK && (e != api.ErrFault || got != "" || shown(t, c) != ahead) {
				t.Fatalf("%s, a fault at %d: %q, %d", line, at, got, e)
			}
			for _, bytes := range []int{0, 1 + at%90, -7} {
				c := with(t, fmt.Sprintf(";cut %d %d", at, bytes))
				is(t, c, line, "", api.ErrOff)
				is(t, c, line, "", api.ErrOff)
				obeys(t, c, "power;"+opens)
				now := shown(t, c)
				if now != ahead && now != behind {
					t.Fatalf("%s, cut at %d with %d: %s", line, at, bytes, now)
				}
				seen[now]++
			}
		}
		if seen[ahead] == 0 {
			t.Errorf("%s: never as ahead of it", line)
		}
	}
}

// fitting are lines that turn bits of a block such that its sum still fits: the sum is turned by the same rule.
func fitting(c *console.Console, file, block int, turned []int) []string {
	f := c.State().Files[file]
	b := f.Blocks[block]
	body := len(b) - 4
	was := crc32.ChecksumIEEE(b[:body])
	for _, bit := range turned {
		b[bit/8] ^= 1 << (bit % 8)
	}
	sum := was ^ crc32.ChecksumIEEE(b[:body])
	for i := range 32 {
		if sum>>i&1 == 1 {
			turned = append(turned, 8*body+i)
		}
	}
	var lines []string
	for _, bit := range turned {
		lines = append(lines, fmt.Sprintf("spoil %s %d %d", f.Name, block, bit))
	}
	return lines
}

// TestOddBlocks: over blocks that somebody has changed, sums and all, each line ends, and a refusal has nothing beside it. G1, G8.
func TestOddBlocks(t *testing.T) {
	d := bench.Dice(8)
	lines := append(strings.Split(oneOfEach, ";"), "power", opens, "files", "handles", "levels", "counts", "peak", "file 1")
	refused := map[api.Errno]int{}
	for range 300 {
		c := with(t, "")
		files := c.State().Files
		file := d.Below(len(files))
		block := d.Below(len(files[file].Blocks))
		var turned []int
		for range 1 + d.Below(2) {
			word := 32 + 8*d.Below(8)
			turned = append(turned, 8*word+[]int{0, 1, 2, 39, 40, 41, 42, 62, 63}[d.Below(9)])
		}
		obeys(t, c, strings.Join(fitting(c, file, block, turned), ";"))
		if d.Below(2) == 0 {
			obeys(t, c, "power")
			c.Do(opens)
		}
		for range 20 {
			line := lines[d.Below(len(lines))]
			answer, e := c.Do(line)
			if e != api.OK && answer != "" || e == api.ErrScript {
				t.Fatalf("%s: %q, %d", line, answer, e)
			}
			refused[e]++
		}
	}
	for _, e := range []api.Errno{api.OK, api.ErrShape, api.ErrRows} {
		if refused[e] == 0 {
			t.Errorf("%d was never answered: %v", e, refused)
		}
	}
}

// TestOff: with the power off the engine tells what it told, and all else is ErrOff; the disk is asked and changed as before. P18.7, P20.1.
func TestOff(t *testing.T) {
	plain := with(t, "")
	levels, handles, from := obeys(t, plain, "levels"), obeys(t, plain, "handles"), calls(t, plain)
	file := obeys(t, plain, "file 2")
	c := with(t, fmt.Sprintf(";cut %d 0", from))
	is(t, c, "var 0", "", api.ErrOff)
	for _, line := range strings.Split(oneOfEach, ";") {
		is(t, c, line, "", api.ErrOff)
	}
	is(t, c, "levels", levels, api.OK)
	is(t, c, "handles", handles, api.OK)
	is(t, c, "file 2", file, api.OK)
	is(t, c, "file 99", "", api.ErrHandle)
	is(t, c, "spoil "+file+" 0 3", "", api.OK)
	if _, e := c.Do("files"); e != api.OK {
		t.Errorf("files: %d", e)
	}
	is(t, c, opens, "", api.ErrAbout)
	obeys(t, c, "spoil "+file+" 0 3;power;"+opens)
	is(t, c, "handles", handles, api.OK)
}

package nodes_test

import (
	"slices"
	"testing"

	"strata/api"
	"strata/nodes"
)

// TestCursorClosed: every call behind Close, and Close in the midst of a round. P7.7, P7.8.
func TestCursorClosed(t *testing.T) {
	for way, open := range ways() {
		for n := range 5 {
			b := mount(t, holds(t, 1, strips(xor())...), 1)
			c, e := open(b.Desk, "f")
			b.is("a cursor", e, api.OK)
			for range n {
				c.Next()
			}
			b.out(way, 1)
			b.is("Close", c.Close(), api.OK)
			b.asBefore(way)
			b.still(way, func() {
				for range 2 {
					if node, some, e := c.Next(); node != (api.Node{}) || some || e != api.ErrDone {
						t.Errorf("Next behind Close: %v, %v, %d", node, some, e)
					}
					b.is("Close behind Close", c.Close(), api.ErrDone)
				}
			})
			b.asBefore(way)
		}
	}
}

// TestCursorsDoNotMeet: several over one file, at one desk. G6.
func TestCursorsDoNotMeet(t *testing.T) {
	list := canon(5, (*dice).table(new(dice), 5))
	b := mount(t, holds(t, 2, strips(list)...), 6)
	want := nodesOf(list)
	back := slices.Clone(want)
	slices.Reverse(back)
	u, _ := nodes.Up(b.Desk, "f")
	v, _ := nodes.Up(b.Desk, "f")
	d, _ := nodes.Down(b.Desk, "f")
	b.out("three cursors", 6)
	if c, e := nodes.Down(b.Desk, "f"); c != nil || e != api.ErrBudget {
		t.Errorf("a fourth one: %d", e)
	}
	for i := range want {
		x, _, _ := u.Next()
		z, _, _ := d.Next()
		if x != want[i] || z != back[i] {
			t.Fatalf("node %d: %v and %v", i, x, z)
		}
	}
	b.is("Close", u.Close(), api.OK)
	got, e := b.round(v)
	if !slices.Equal(got, want) || e != api.OK {
		t.Errorf("the third one gives %v, %d", got, e)
	}
	b.is("Close", v.Close(), api.OK)
	b.is("Close", d.Close(), api.OK)
	b.asBefore("cursors")
}

// TestCursorReadsAsItGoes: what is asked of the disk: the end's block as it is made, and each block once as it is come to. P7.6, P7.7.
func TestCursorReadsAsItGoes(t *testing.T) {
	for _, k := range []int{1, 2, 3} {
		for n := range 3*k + 2 {
			list := line(n)
			blocks := (n + k) / k
			for way, open := range ways() {
				b := mount(t, holds(t, k, strips(list)...), k)
				c, e := open(b.Desk, "f")
				if b.is("a cursor", e, api.OK); b.Disk().Counts().Calls != 1 {
					t.Errorf("K %d, %d nodes: it is made with %d calls", k, n, b.Disk().Counts().Calls)
				}
				b.round(c)
				most := 1 + blocks
				if way == 0 { // the end is not come to again
					most = 1 + (n+k-1)/k
				} else if n == 0 {
					most = 1
				}
				if reads := b.Disk().Counts().Reads; reads != most {
					t.Errorf("K %d, %d nodes, way %d: %d reads, want %d", k, n, way, reads, most)
				}
				if b.Purse().Peak() != b.hand+k {
					t.Errorf("K %d: peak %d", k, b.Purse().Peak())
				}
				c.Close()
			}
		}
	}
}

// TestCursorWhereSomebodyElseWas: ErrNoFile leaves it as it was; a tape that has become shorter is no node file. P7.7, G1, G6.
func TestCursorWhereSomebodyElseWas(t *testing.T) {
	for way, open := range ways() {
		b := mount(t, holds(t, 1, strips(xor())...), 2)
		c, _ := open(b.Desk, "f")
		first, _, _ := c.Next()
		b.Disk().Delete("f")
		for range 2 {
			if node, some, e := c.Next(); node != (api.Node{}) || some || e != api.ErrNoFile {
				t.Errorf("way %d: Next where the file is gone: %v, %v, %d", way, node, some, e)
			}
		}
		b.is("Close", c.Close(), api.OK)
		b.build("f", xor())
		c, _ = open(b.Desk, "f")
		b.Disk().Delete("f")
		c.Next()
		b.build("f", xor())
		if node, some, e := c.Next(); node != first || !some || e != api.OK {
			t.Errorf("way %d: Next where it is there again: %v, %v, %d", way, node, some, e)
		}
		b.is("Close", c.Close(), api.OK)
	}
}

// TestCursorOfATapeThatHasShrunk: somebody has put another tape in the place of it, with as many blocks and fewer records. G1.
func TestCursorOfATapeThatHasShrunk(t *testing.T) {
	for way, open := range ways() {
		b := mount(t, holds(t, 9, strips(line(6))...), 18)
		c, _ := open(b.Desk, "f")
		b.Disk().Delete("f")
		b.lay("f", line(6)[:2])
		got, e := b.round(c)
		if e != api.ErrShape || way == 0 && len(got) != 2 || way == 1 && len(got) != 0 {
			t.Errorf("way %d: %v, %d", way, got, e)
		}
		b.is("Close", c.Close(), api.OK)
	}
}

// lay writes a tape of nodes.
func (b bench) lay(name string, list []api.Rec) {
	b.Helper()
	w, e := b.Write(name, api.KindNodes)
	b.is("Write", e, api.OK)
	for _, r := range list {
		w.Put(r)
	}
	b.is("Close", w.Close(), api.OK)
}

// TestAllAnswersNewMemory: G3.
func TestAllAnswersNewMemory(t *testing.T) {
	b := lie(t, 2, xor())
	x, _, _ := nodes.All(b.Desk, "f")
	clear(x[:cap(x)])
	if y, _, e := nodes.All(b.Desk, "f"); !slices.Equal(y, nodesOf(xor())) || e != api.OK {
		t.Errorf("All again: %v, %d", y, e)
	}
}

// TestEval: each assignment of functions at random, the bits left as they are. P7.11, G3.
func TestEval(t *testing.T) {
	r := dice(5)
	for n := range 9 {
		table := r.table(n)
		b := lie(t, 1+n%3, canon(n, table))
		for i, want := range table {
			bits := bitsOf(n, i)
			if v, e := nodes.Eval(b.Desk, "f", bits); v != want || e != api.OK {
				t.Fatalf("%d levels at %v: %v, %d", n, bits, v, e)
			}
			if !slices.Equal(bits, bitsOf(n, i)) {
				t.Fatalf("the bits are %v now", bits)
			}
		}
		b.asBefore("Eval")
	}
}

// TestEvalOfWhatIsNotWellFormed: a child that is not there; it ends with an error or a truth. G8.
func TestEvalOfWhatIsNotWellFormed(t *testing.T) {
	b := lie(t, 1, []api.Rec{rec(0, F, at(1, 7)), end(2, 0, 1)})
	if v, e := nodes.Eval(b.Desk, "f", []bool{false, true}); v || e != api.OK {
		t.Errorf("the side that is there: %v, %d", v, e)
	}
	if v, e := nodes.Eval(b.Desk, "f", []bool{true, true}); v || e != api.ErrShape {
		t.Errorf("the side that is not there: %v, %d", v, e)
	}
	b.asBefore("Eval")
}

// TestEqualOfNearTapes: each record of a file made another one, in each word; a record more and a record less. P7.12.
func TestEqualOfNearTapes(t *testing.T) {
	list := canon(3, bitsOf(8, 0x96))
	last := len(list) - 1
	for _, k := range []int{1, 2, 3, 100} {
		for i := range list[:last] {
			for w := range 4 {
				near := slices.Clone(list)
				near[i][w]++
				b := lie(t, k, list, near)
				for _, pair := range [][2]string{{"f", "g"}, {"g", "f"}} {
					if same, e := nodes.Equal(b.Desk, pair[0], pair[1]); same || e != api.OK {
						t.Fatalf("K %d: record %d, word %d: %v, %d", k, i, w, same, e)
					}
				}
				b.asBefore("Equal")
			}
		}
		for _, near := range [][]api.Rec{list[1:], append([]api.Rec{{}}, list...), slices.Insert(slices.Clone(list), last, api.Rec{})} {
			b := lie(t, k, list, near)
			for _, pair := range [][2]string{{"f", "g"}, {"g", "f"}} {
				if same, e := nodes.Equal(b.Desk, pair[0], pair[1]); same || e != api.OK {
					t.Fatalf("K %d: %v: %v, %d", k, near, same, e)
				}
			}
		}
	}
	for _, near := range [][]api.Rec{{end(3, T, 0)}, {end(3, F, 0)}} { // ends that are not the same
		b := lie(t, 1, list, near, []api.Rec{end(3, T, 0)})
		if same, e := nodes.Equal(b.Desk, "f", "g"); same || e != api.OK {
			t.Errorf("a leaf: %v, %d", same, e)
		}
		if same, e := nodes.Equal(b.Desk, "h", "g"); same != (near[0][2] == uint64(T)) || e != api.OK {
			t.Errorf("two leaves: %v, %d", same, e)
		}
	}
}

// TestWidth: P7.13.
func TestWidth(t *testing.T) {
	for n := range 6 {
		b := lie(t, 2, line(n))
		if w, e := nodes.Width(b.Desk, "f"); w != min(n, 1) || e != api.OK {
			t.Errorf("a line of %d: %d, %d", n, w, e)
		}
	}
	// The widest level is the deepest one, one in the midst, the one behind the root.
	r := dice(6)
	for n := 2; n < 11; n++ {
		list := canon(n, r.table(n))
		b := lie(t, 3, list)
		if w, e := nodes.Width(b.Desk, "f"); w != width(list) || e != api.OK {
			t.Errorf("%d levels: %d, %d, want %d", n, w, e, width(list))
		}
	}
}

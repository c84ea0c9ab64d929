package tally_test

import (
	"iter"
	"slices"
	"sync"
	"testing"

	"strata/api"
	"strata/bench"
	"strata/tally"
)

// TestCubesLeftEarly: behind any of its texts; what it held is given back. P11.7.
func TestCubesLeftEarly(t *testing.T) {
	r := bench.Dice(40)
	const n = 6
	table := r.Table(n)
	want := cubesOf(table, n)
	b := bench.Mount(t, bench.Holds(t, 2, bench.Files(bench.Canon(n, table))...), 2)
	seq := tally.Cubes(b.Desk, "f")
	for stop := range want {
		var got []string
		for text, e := range seq {
			b.Is(text, e, api.OK)
			if got = append(got, text); len(got) > stop {
				break
			}
		}
		if !slices.Equal(got, want[:stop+1]) {
			t.Fatalf("%q, want %q", got, want[:stop+1])
		}
		b.AsBefore(stop)
	}
}

// TestCubesAgain: each range is a pass of its own, from the beginning. P11.7, DOC.md "Iterators".
func TestCubesAgain(t *testing.T) {
	r := bench.Dice(41)
	const n = 5
	one, two := r.Table(n), r.Thin(n)
	b := bench.Mount(t, bench.Holds(t, 1, bench.Files(bench.Canon(n, one), bench.Canon(n, two))...), 1)
	f, g := tally.Cubes(b.Desk, "f"), tally.Cubes(b.Desk, "g")
	for range 3 {
		for seq, table := range map[*iter.Seq2[string, api.Errno]][]bool{&f: one, &g: two} {
			var got []string
			for text, e := range *seq {
				b.Is(text, e, api.OK)
				got = append(got, text)
			}
			if want := cubesOf(table, n); !slices.Equal(got, want) {
				t.Fatalf("%q, want %q", got, want)
			}
			b.AsBefore("a pass")
		}
	}
}

// TestCubesWithinCubes: two passes at once, over one file and over two, each with its own K records; a third has none left. P11.7.
func TestCubesWithinCubes(t *testing.T) {
	r := bench.Dice(42)
	const n, k = 4, 3
	one, two := r.Table(n), r.Table(n)
	b := bench.Mount(t, bench.Holds(t, k, bench.Files(bench.Canon(n, one), bench.Canon(n, two))...), 2*k)
	for inner, table := range map[string][]bool{"f": one, "g": two} {
		var got []string
		seq := tally.Cubes(b.Desk, "f")
		for text, e := range seq {
			b.Is(text, e, api.OK)
			got = append(got, text)
			within := tally.Cubes(b.Desk, inner)
			if inner == "f" {
				within = seq
			}
			var also []string
			for text, e := range within {
				b.Is(text, e, api.OK)
				if out := b.Purse().Used() - b.Hand; out != 2*k {
					t.Fatalf("%d records are out", out)
				}
				for text, e := range tally.Cubes(b.Desk, "g") {
					if text != "" || e != api.ErrBudget {
						t.Fatalf("a third pass: %q, %d", text, e)
					}
				}
				also = append(also, text)
			}
			if want := cubesOf(table, n); !slices.Equal(also, want) {
				t.Fatalf("within: %q, want %q", also, want)
			}
		}
		if want := cubesOf(one, n); !slices.Equal(got, want) {
			t.Fatalf("%q, want %q", got, want)
		}
		b.AsBefore(inner)
	}
}

// TestCubesKeepWhatTheyHold: no one else gets at the records of a pass, neither between two texts nor while it reads. P11.7.
func TestCubesKeepWhatTheyHold(t *testing.T) {
	r := bench.Dice(45)
	const n, k = 8, 2
	table := r.Table(n)
	b := bench.Mount(t, bench.Holds(t, k, bench.Files(bench.Canon(n, table))...), k)
	var got []string
	var thief sync.WaitGroup
	end := make(chan struct{})
	for text, e := range tally.Cubes(b.Desk, "f") {
		b.Is(text, e, api.OK)
		if got = append(got, text); len(got) == 1 {
			thief.Go(func() {
				for {
					select {
					case <-end:
						return
					default:
						if b.Purse().Take(1) == api.OK {
							t.Error("a record of the pass was free")
							b.Purse().Give(1)
							return
						}
					}
				}
			})
		}
		if len(got) == len(cubesOf(table, n)) {
			close(end)
			thief.Wait()
		}
	}
	if want := cubesOf(table, n); !slices.Equal(got, want) {
		t.Fatalf("%q, want %q", got, want)
	}
	b.AsBefore("a pass")
}

// TestCubesInTurns: two passes that go on in turns. P11.7.
func TestCubesInTurns(t *testing.T) {
	r := bench.Dice(43)
	const n = 5
	table := r.Table(n)
	b := bench.Mount(t, bench.Holds(t, 1, bench.Files(bench.Canon(n, table))...), 2)
	a, endA := iter.Pull2(tally.Cubes(b.Desk, "f"))
	c, endC := iter.Pull2(tally.Cubes(b.Desk, "f"))
	want := cubesOf(table, n)
	a() // one is a step ahead
	for i, text := range want {
		one, _, more := a()
		two, e, some := c()
		if two != text || e != api.OK || !some || more != (i+1 < len(want)) || more && one != want[i+1] {
			t.Fatalf("step %d: %q, %q, want %q", i, one, two, text)
		}
	}
	endA()
	endC()
	b.AsBefore("passes in turns")
}

// TestCubesGiveUp: what the body panics of goes through, and the records are back. G10.
func TestCubesGiveUp(t *testing.T) {
	b := bench.Mount(t, bench.Holds(t, 1, bench.Files(bench.Canon(2, bench.Number(2, 6)))...), 1)
	func() {
		defer func() { recover() }()
		for range tally.Cubes(b.Desk, "f") {
			panic("left")
		}
	}()
	b.AsBefore("a body that panics")
}

// TestCubesReadAsTheyAreAsked: a pass that is left has read for its own texts; what befalls the disk later is told later. P11.7, DOC.md "Iterators".
func TestCubesReadAsTheyAreAsked(t *testing.T) {
	const n = 8
	table := bench.TableOf(n, func(x int) bool { return x%3 == 0 })
	want := cubesOf(table, n)
	was := bench.Holds(t, 1, bench.Files(bench.Canon(n, table))...)
	for stop := range 10 {
		b := bench.Mount(t, was, 1)
		var got []string
		for text, e := range tally.Cubes(b.Desk, "f") {
			if len(got) == stop+1 {
				if text != "" || e != api.ErrSpoilt {
					t.Fatalf("behind %d texts: %q, %d", len(got), text, e)
				}
				continue
			}
			b.Is(text, e, api.OK)
			if got = append(got, text); len(got) == stop+1 {
				for i := range bench.BlocksIn(was) {
					b.Disk().Spoil("f", i, 99)
				}
			}
		}
		if !slices.Equal(got, want[:stop+1]) {
			t.Fatalf("%q, want %q", got, want[:stop+1])
		}
		b.Out(stop)
	}
}

// TestCubesOfAFileThatDoesNotStay: nothing is promised, but that each pass ends and does not panic. G1.
func TestCubesOfAFileThatDoesNotStay(t *testing.T) {
	r := bench.Dice(44)
	for range 300 {
		n := 1 + r.Below(5)
		b := bench.Lie(t, 1, bench.Files(bench.Canon(n, r.Table(n)))...)
		m := 1 + r.Below(5)
		other := bench.Lie(t, 1, bench.Files(bench.Canon(n, r.Table(n)), bench.Canon(m, r.Table(m)), nil)...)
		texts := 0
		for range tally.Cubes(b.Desk, "f") {
			if texts++; texts > 1000 {
				t.Fatal("it does not end")
			}
			from := []string{"f", "f", "f", "g", "g", "h", ""}[r.Below(7)]
			b.Disk().Delete("f")
			if from == "" {
				continue
			}
			w, _ := b.Write("f", api.KindNodes)
			for rec := range other.All(from, api.KindNodes) {
				w.Put(rec)
			}
			w.Close()
		}
		b.Out("a file that does not stay")
	}
}

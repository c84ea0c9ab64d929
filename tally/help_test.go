package tally_test

import (
	"math"
	"math/big"
	"math/cmplx"
	"slices"
	"strings"

	"strata/api"
	"strata/bench"
	"strata/tally"
	"strata/tape"
)

// The leaves, as the chapter writes them.
const (
	F = api.False
	T = api.True
)

// facts are all that is told of a diagram. Those that a test does not reckon are nil.
type facts struct {
	n       int
	count   *big.Int
	paths   *big.Int
	density float64
	turns   []int
	sum     complex128 // Amplitude with these turns, if there are as many as levels
	support []int
	first   []bool // nil of what is false
	cubes   []string
}

// factsOf are those of a function, by the words of DOC.md and of the chapter.
func factsOf(n int, table []bool, turns []int) facts {
	x := facts{n: n, turns: turns, cubes: cubesOf(table, n)}
	trues := 0
	for a, v := range table {
		if !v {
			continue
		}
		if trues++; trues == 1 {
			for l := range n {
				x.first = append(x.first, bench.Bit(n, a, l))
			}
		}
		x.sum += productOf(n, a, turns)
	}
	for l := range n {
		if bench.HangsOn(n, table, l) {
			x.support = append(x.support, l)
		}
	}
	x.count, x.paths = big.NewInt(int64(trues)), big.NewInt(int64(len(x.cubes)))
	x.density = float64(trues) / float64(len(table))
	return x
}

// productOf is that of i to the turns of the levels that are true in an assignment.
func productOf(n, a int, turns []int) complex128 {
	product := complex128(1)
	for l, t := range turns {
		if bench.Bit(n, a, l) {
			product *= [...]complex128{1, 1i, -1, -1i}[(t%4+4)%4]
		}
	}
	return product
}

// cubesOf are the paths of a rest over n levels, each told from its first level on.
func cubesOf(rest []bool, n int) []string {
	if !slices.Contains(rest, !rest[0]) {
		if rest[0] {
			return []string{strings.Repeat("-", n)}
		}
		return nil
	}
	low, high := rest[:len(rest)/2], rest[len(rest)/2:]
	if slices.Equal(low, high) {
		return ahead("-", cubesOf(low, n-1))
	}
	return append(ahead("0", cubesOf(low, n-1)), ahead("1", cubesOf(high, n-1))...)
}

func ahead(first string, list []string) []string {
	for i := range list {
		list[i] = first + list[i]
	}
	return list
}

// anyTurns are numbers of any size and sign.
func anyTurns(r *bench.Dice, n int) []int {
	out := make([]int, n)
	for i := range out {
		out[i] = []int{0, 1, 2, 3, 4, -1, -2, -3, -4, 1001, -1001, math.MaxInt, math.MinInt, math.MinInt + 1, math.MaxInt - 2}[r.Below(15)]
	}
	return out
}

// spread are the facts of the function that hangs on the levels at these places as the one they are told of hangs on its own; the turns are told anew.
func (x facts) spread(n int, table []bool, places []int, turns []int) facts {
	out := facts{n: n, paths: x.paths, density: x.density, turns: turns}
	out.count = new(big.Int).Lsh(x.count, uint(n-x.n))
	for _, l := range x.support {
		out.support = append(out.support, places[l])
	}
	if x.count.Sign() > 0 {
		out.first = make([]bool, n)
		for l, v := range x.first {
			out.first[places[l]] = v
		}
	}
	for _, text := range x.cubes {
		wide := []byte(strings.Repeat("-", n))
		for l, place := range places {
			wide[place] = text[l]
		}
		out.cubes = append(out.cubes, string(wide))
	}
	var own []int
	for _, place := range places {
		own = append(own, turns[place])
	}
	out.sum = factsOf(x.n, table, own).sum
	for l, t := range turns {
		if !slices.Contains(places, l) {
			out.sum *= 1 + productOf(1, 1, []int{t})
		}
	}
	return out
}

// below is the node file of the assignments that, read as numbers of n bits, are below one of at most so many; a chain.
func below(n int, c *big.Int) []api.Rec {
	var list []api.Rec
	next := F
	for l := n - 1; l >= 0; l-- {
		low, high := next, F
		if c.Bit(n-1-l) == 1 {
			low, high = T, next
		}
		if low == high {
			continue
		}
		next = bench.At(l, 0)
		list = append(list, api.Rec{uint64(next), uint64(low), uint64(high), 0})
	}
	return append(list, bench.End(n, next, len(list)))
}

// factsBelow are those of that file; the texts of a chain of thousands of levels are too many to be held.
func factsBelow(n int, c *big.Int) facts {
	x := facts{n: n, count: c, paths: big.NewInt(ones(c))}
	x.density, _ = new(big.Rat).SetFrac(c, new(big.Int).Lsh(big.NewInt(1), uint(n))).Float64()
	if c.Sign() > 0 {
		x.first = make([]bool, n)
	}
	text := []byte(strings.Repeat("-", n))
	deepest := n - int(c.TrailingZeroBits())
	for l := 0; l < deepest && c.Sign() > 0; l++ {
		x.support = append(x.support, l)
		if text[l] = '0'; c.Bit(n-1-l) == 1 && n < 3000 {
			x.cubes = append(x.cubes, string(text))
			text[l] = '1'
		}
	}
	return x
}

// ones is how many bits of a number are 1.
func ones(c *big.Int) int64 {
	return int64(strings.Count(c.Text(2), "1"))
}

// atLeast is the node file of the assignments in which so many levels, 1 at least, of n are true; numbers of many digits come to its nodes from two sides.
func atLeast(n, many int) []api.Rec {
	type arcs [2]api.Ptr
	var list []api.Rec
	was := map[int]api.Ptr{0: T} // by how many are still to come
	for need := 1; need <= many; need++ {
		was[need] = F
	}
	for l := n - 1; l >= 0; l-- {
		now, kinds := map[int]api.Ptr{0: T}, map[arcs]int{}
		var row []arcs
		for need := 1; need <= many; need++ {
			a := arcs{was[need], was[need-1]}
			if now[need] = a[0]; a[0] != a[1] && need >= many-l {
				row = append(row, a)
				kinds[a] = need
			}
		}
		slices.SortFunc(row, func(a, b arcs) int { return slices.Compare(a[:], b[:]) })
		for id, a := range row {
			now[kinds[a]] = bench.At(l, id)
			list = append(list, api.Rec{uint64(bench.At(l, id)), uint64(a[0]), uint64(a[1]), 0})
		}
		was = now
	}
	return append(list, bench.End(n, was[many], len(list)))
}

// all is what the calls tell of the file f.
func all(b bench.Bench, f string, turns []int) facts {
	b.Helper()
	info := facts{turns: turns}
	var e [6]api.Errno
	info.count, e[0] = tally.Count(b.Desk, f)
	info.paths, e[1] = tally.Paths(b.Desk, f)
	info.density, e[2] = tally.Density(b.Desk, f)
	info.support, e[3] = tally.Support(b.Desk, f)
	info.first, e[4] = tally.First(b.Desk, f)
	if turns != nil {
		info.sum, e[5] = tally.Amplitude(b.Desk, f, turns)
	}
	if e[4] == api.ErrLeaf && info.first == nil && info.count.Sign() == 0 {
		e[4] = api.OK
	}
	if e != [6]api.Errno{} {
		b.Fatalf("%s: refused: %v", f, e)
	}
	info.cubes = cubes(b, f)
	return info
}

// cubes is a whole pass.
func cubes(b bench.Bench, f string) []string {
	b.Helper()
	var list []string
	for text, e := range tally.Cubes(b.Desk, f) {
		if e != api.OK {
			b.Fatalf("%s: Cubes: %d", f, e)
		}
		if out := b.Purse().Used() - b.Hand; out != b.K() {
			b.Fatalf("%s: %d records are out while a pass goes on, want %d", f, out, b.K())
		}
		list = append(list, text)
	}
	return list
}

// tells fails the test unless the calls tell these facts of a file, and all is as before.
func (x facts) tells(b bench.Bench, f string) {
	b.Helper()
	got := all(b, f, x.turns)
	b.AsBefore(f)
	if got.count.Cmp(x.count) != 0 || got.paths.Cmp(x.paths) != 0 {
		b.Fatalf("%s: count %v, want %v; paths %v, want %v", f, got.count, x.count, got.paths, x.paths)
	}
	if math.Float64bits(got.density) != math.Float64bits(x.density) {
		b.Fatalf("%s: density %x, want %x", f, got.density, x.density)
	}
	if got.sum != x.sum || cmplx.IsNaN(got.sum) {
		b.Fatalf("%s: turns %v: %v, want %v", f, x.turns, got.sum, x.sum)
	}
	if !slices.Equal(got.support, x.support) || !slices.Equal(got.first, x.first) {
		b.Fatalf("%s: support %v, want %v; first %v, want %v", f, short(got.support), short(x.support), short(got.first), short(x.first))
	}
	if !slices.Equal(got.cubes, x.cubes) {
		b.Fatalf("%s: cubes\n%.100q, want\n%.100q", f, short(got.cubes), short(x.cubes))
	}
}

// short is what a message shows of a list.
func short[E any](list []E) []E { return list[:min(len(list), 100)] }

// ask is one of the calls; whatever it tells beside its error goes to zero, which answers whether that is its zero value.
type ask struct {
	what string
	do   func(k *tape.Desk, f string) (zero bool, e api.Errno)
}

// asks are the whole operations; Amplitude is given so many turns.
func asks(turns int) []ask {
	return []ask{
		{"Count", func(k *tape.Desk, f string) (bool, api.Errno) {
			n, e := tally.Count(k, f)
			return n == nil, e
		}},
		{"Paths", func(k *tape.Desk, f string) (bool, api.Errno) {
			n, e := tally.Paths(k, f)
			return n == nil, e
		}},
		{"Density", func(k *tape.Desk, f string) (bool, api.Errno) {
			x, e := tally.Density(k, f)
			return x == 0, e
		}},
		{"Amplitude", func(k *tape.Desk, f string) (bool, api.Errno) {
			z, e := tally.Amplitude(k, f, make([]int, turns))
			return z == 0, e
		}},
		{"Support", func(k *tape.Desk, f string) (bool, api.Errno) {
			l, e := tally.Support(k, f)
			return len(l) == 0, e
		}},
		{"First", func(k *tape.Desk, f string) (bool, api.Errno) {
			l, e := tally.First(k, f)
			return len(l) == 0, e
		}},
	}
}

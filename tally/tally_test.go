package tally_test

import (
	"math"
	"math/big"
	"slices"
	"strings"
	"testing"

	"strata/api"
	"strata/bench"
	"strata/tally"
)

// most is the greatest number of levels.
const most = api.MaxVars

// TestEachFunction of few levels, over unlike blocks and the least purse. P11.1 to P11.7.
func TestEachFunction(t *testing.T) {
	r := bench.Dice(1)
	for n := range 4 {
		for number := range 1 << (1 << n) {
			table := bench.Number(n, number)
			b := bench.Lie(t, 1+r.Below(3), bench.Files(bench.Canon(n, table))...)
			for range 3 {
				factsOf(n, table, anyTurns(&r, n)).tells(b, "f")
			}
		}
	}
}

// TestAnyFunction: as the dice say, over unlike blocks and budgets, whose answers are one. P11.1 to P11.7, G9.
func TestAnyFunction(t *testing.T) {
	t.Parallel()
	r := bench.Dice(2)
	for n := 4; n < 10; n++ {
		for _, table := range [][]bool{r.Table(n), r.Thin(n), bench.TableOf(n, func(int) bool { return r.Below(30) == 0 })} {
			x := factsOf(n, table, anyTurns(&r, n))
			for _, c := range []struct{ k, free int }{{1, 64}, {1, 65}, {1, 100}, {1, 5000}, {2, 128}, {3, 300}, {7, 448}, {63, 64 * 63}} {
				x.tells(bench.Mount(t, bench.Holds(t, c.k, bench.Files(bench.Canon(n, table))...), c.free), "f")
			}
		}
	}
}

// TestWideLevels: far more numbers are on their way than the purse holds. P11.1 to P11.4, G10.
func TestWideLevels(t *testing.T) {
	t.Parallel()
	r := bench.Dice(3)
	const n = 12
	table := r.Table(n)
	x := factsOf(n, table, anyTurns(&r, n))
	b := bench.Lie(t, 1, bench.Files(bench.Canon(n, table))...)
	for range 2 {
		got, e := tally.Count(b.Desk, "f")
		if e != api.OK || got.Cmp(x.count) != 0 {
			t.Fatalf("Count: %v, %d, want %v", got, e, x.count)
		}
		got, e = tally.Paths(b.Desk, "f")
		if e != api.OK || got.Cmp(x.paths) != 0 {
			t.Fatalf("Paths: %v, %d, want %v", got, e, x.paths)
		}
		sum, e := tally.Amplitude(b.Desk, "f", x.turns)
		if e != api.OK || sum != x.sum {
			t.Fatalf("Amplitude: %v, %d, want %v", sum, e, x.sum)
		}
	}
	b.AsBefore("wide levels")
}

// TestLevelsWithoutNodes: many above, between and below those that have some. P11.1 to P11.7.
func TestLevelsWithoutNodes(t *testing.T) {
	r := bench.Dice(4)
	for range 60 {
		n, wide := r.Below(5), 5+r.Below(46)
		table := r.Table(n)
		places := slices.Sorted(slices.Values(r.Some(wide, n)))
		list := bench.Spread(bench.Canon(n, table), wide, places)
		x := factsOf(n, table, make([]int, n)).spread(wide, table, places, anyTurns(&r, wide))
		x.tells(bench.Lie(t, 1+r.Below(4), bench.Files(list)...), "f")
	}
}

// TestTheMostLevels: nodes at the first, at the last, in the midst, or at none of them. P11.1 to P11.3, P11.5 to P11.7.
func TestTheMostLevels(t *testing.T) {
	r := bench.Dice(5)
	for _, places := range [][]int{nil, {0}, {most - 1}, {0, most - 1}, {1, 40000, most - 2}, {most - 3, most - 2, most - 1}} {
		n := len(places)
		for range 3 {
			table := r.Table(n)
			x := factsOf(n, table, make([]int, n)).spread(most, table, places, make([]int, most))
			x.turns, x.sum = nil, 0
			x.tells(bench.Lie(t, 1, bench.Files(bench.Spread(bench.Canon(n, table), most, places))...), "f")
		}
	}
}

// TestManyDigits: counts of any number of digits, each digit of them by chance. P11.1 to P11.3, P11.5 to P11.7.
func TestManyDigits(t *testing.T) {
	r := bench.Dice(6)
	for _, n := range []int{63, 64, 65, 127, 128, 129, 200} {
		for _, zeros := range []int{0, 1, n / 2, n - 1} {
			c := new(big.Int)
			for range n - zeros {
				c.Lsh(c, 1).SetBit(c, 0, uint(r.Below(2)))
			}
			c.Lsh(c, uint(zeros))
			factsBelow(n, c).tells(bench.Lie(t, 1+r.Below(5), bench.Files(below(n, c))...), "f")
		}
	}
	c := new(big.Int)
	for range most {
		c.Lsh(c, 1).SetBit(c, 0, uint(r.Below(2)))
	}
	b := bench.Lie(t, 40, bench.Files(below(most, c))...)
	x := factsBelow(most, c)
	got, e := tally.Count(b.Desk, "f")
	near, g := tally.Density(b.Desk, "f")
	if e != api.OK || g != api.OK || got.Cmp(c) != 0 || near != x.density {
		t.Errorf("Count of %d bits: %d, %d; density %v, want %v", c.BitLen(), e, g, near, x.density)
	}
	if got, e := tally.Paths(b.Desk, "f"); e != api.OK || got.Cmp(x.paths) != 0 {
		t.Errorf("Paths: %v, %d, want %v", got, e, x.paths)
	}
	b.AsBefore("the most digits")
}

// TestManyDigitsWait: more numbers of many digits than the purse holds are on their way, and are added up where they meet. P11.1, P11.2, G10.
func TestManyDigitsWait(t *testing.T) {
	t.Parallel()
	for _, c := range []struct{ n, many int }{{1, 1}, {2, 1}, {5, 5}, {40, 20}, {129, 60}, {400, 130}} {
		count, paths := new(big.Int), new(big.Int).Binomial(int64(c.n), int64(c.many))
		for j := c.many; j <= c.n; j++ {
			count.Add(count, new(big.Int).Binomial(int64(c.n), int64(j)))
		}
		b := bench.Lie(t, 1, bench.Files(atLeast(c.n, c.many))...)
		if got, e := tally.Count(b.Desk, "f"); e != api.OK || got.Cmp(count) != 0 {
			t.Errorf("%+v: Count %v, %d, want %v", c, got, e, count)
		}
		if got, e := tally.Paths(b.Desk, "f"); e != api.OK || got.Cmp(paths) != 0 {
			t.Errorf("%+v: Paths %v, %d, want %v", c, got, e, paths)
		}
		b.AsBefore(c)
	}
}

// TestDensity: the nearest float64, and of two the one whose last bit is 0; a quotient below the least one, halfway to it, just above that; and those of fewer bits. P11.3.
func TestDensity(t *testing.T) {
	one := big.NewInt(1)
	shifted := func(c int64, by uint) *big.Int { return new(big.Int).Lsh(big.NewInt(c), by) }
	const least = math.SmallestNonzeroFloat64
	for _, c := range []struct {
		what string
		n    int
		c    *big.Int
		want float64
	}{
		{"false", 9, new(big.Int), 0},
		{"half", 1, one, 0.5},
		{"53 bits", 53, big.NewInt(1<<53 - 1), 1 - 0x1p-53},
		{"halfway, the lower one is even", 54, big.NewInt(1<<53 + 1), 0.5},
		{"halfway, the upper one is even", 54, big.NewInt(1<<53 + 3), 0.5 + 0x1p-52},
		{"a bit above halfway", 154, new(big.Int).Add(shifted(1<<53+1, 100), one), 0.5 + 0x1p-53},
		{"a bit below halfway", 154, new(big.Int).Sub(shifted(1<<53+3, 100), one), 0.5 + 0x1p-53},
		{"halfway to 1", 54, big.NewInt(1<<54 - 1), 1},
		{"below 1 by more", 60, big.NewInt(1<<60 - 1<<7), 1 - 0x1p-53},
		{"below half of the least one", 1076, one, 0},
		{"halfway to the least one", 1075, one, 0},
		{"just above that", 2000, new(big.Int).Add(shifted(1, 925), one), least},
		{"just below that", 2000, new(big.Int).Sub(shifted(1, 925), one), 0},
		{"the least one", 1074, one, least},
		{"halfway between it and the next", 1075, big.NewInt(3), 2 * least},
		{"halfway behind that", 1075, big.NewInt(5), 2 * least},
		{"not halfway", 1076, big.NewInt(5), least},
		{"the greatest of fewer bits", 1074, big.NewInt(1<<52 - 1), 0x1p-1022 - least},
		{"halfway to the least of all bits", 1075, big.NewInt(1<<53 - 1), 0x1p-1022},
		{"the least of all bits", 1022, one, 0x1p-1022},
		{"52 bits, rounded once", 1075, big.NewInt(0x12345678901 * 2), 0x12345678901 * least},
		{"52 bits, rounded twice it would be more", 1075 + 60, new(big.Int).Sub(shifted(2*0x12345678901+1, 60), one), 0x12345678901 * least},
		{"the most levels", most, shifted(5, most-3), 0.625},
		{"the least of the most levels", most, one, 0},
	} {
		b := bench.Lie(t, 2, bench.Files(below(c.n, c.c))...)
		if got, e := tally.Density(b.Desk, "f"); e != api.OK || math.Float64bits(got) != math.Float64bits(c.want) {
			t.Errorf("%s: %x, %d, want %x", c.what, got, e, c.want)
		}
		b.AsBefore(c.what)
	}
}

// TestDensityByChance: against a quotient of whole numbers. P11.3.
func TestDensityByChance(t *testing.T) {
	r := bench.Dice(8)
	for range 400 {
		digits := 1 + r.Below(70)
		n := digits + []int{0, 1, 30, 980, 1000, 1010, 1020, 1030}[r.Below(8)]
		c := big.NewInt(1)
		for c.BitLen() < digits {
			c.Lsh(c, 1).SetBit(c, 0, uint(r.Below(2)))
		}
		b := bench.Lie(t, 5, bench.Files(below(n, c))...)
		want := factsBelow(n, c).density
		if got, e := tally.Density(b.Desk, "f"); e != api.OK || math.Float64bits(got) != math.Float64bits(want) {
			t.Fatalf("%v over %d: %x, %d, want %x", c, n, got, e, want)
		}
	}
}

// TestTurns: of any size and sign, over as many levels as may be. P11.4.
func TestTurns(t *testing.T) {
	const n = api.MaxTurns
	yes := bench.Files([]api.Rec{bench.End(n, T, 0)}, []api.Rec{bench.End(n, F, 0)})
	b := bench.Lie(t, 1, yes...)
	for turn, factor := range map[int]complex128{0: 2, 4: 2, -4: 2, math.MinInt: 2, 1: 1 + 1i, 5: 1 + 1i, -3: 1 + 1i, math.MinInt + 1: 1 + 1i, 2: 0, -2: 0, math.MaxInt - 1: 0, 3: 1 - 1i, -1: 1 - 1i, math.MaxInt: 1 - 1i} {
		turns := slices.Repeat([]int{turn}, n)
		want := complex128(1)
		for range n {
			want *= factor
		}
		if got, e := tally.Amplitude(b.Desk, "f", turns); got != want || e != api.OK {
			t.Errorf("turns of %d: %v, %d, want %v", turn, got, e, want)
		}
		if got, e := tally.Amplitude(b.Desk, "g", turns); got != 0 || e != api.OK {
			t.Errorf("turns of %d, of false: %v, %d", turn, got, e)
		}
		if !slices.Equal(turns, slices.Repeat([]int{turn}, n)) {
			t.Errorf("the turns have become %v", turns)
		}
	}
	b.AsBefore("turns")
}

// TestAmplitudeIsExact: all but one of the assignments, with all turns 0 and with turns by which they are counted apart. P11.4.
func TestAmplitudeIsExact(t *testing.T) {
	const n = api.MaxTurns
	c := big.NewInt(1<<n - 1)
	b := bench.Lie(t, 1, bench.Files(below(n, c))...)
	turns := make([]int, n)
	for _, c := range []struct {
		turn int
		want complex128
	}{{0, 1<<n - 1}, {1, complex(1<<(n-1), 1<<(n-1)-1)}, {2, 1}, {3, complex(1<<(n-1), 1-1<<(n-1))}} {
		turns[n-1] = c.turn // the one that is left out has it true
		if got, e := tally.Amplitude(b.Desk, "f", turns); got != c.want || e != api.OK {
			t.Errorf("turn %d: %v, %d, want %v", c.turn, got, e, c.want)
		}
	}
}

// TestNoSignOfZero: a sum that is 0 has no sign, whatever was added up. P11.4, G9.
func TestNoSignOfZero(t *testing.T) {
	r := bench.Dice(9)
	zeros := 0
	for range 200 {
		n := 1 + r.Below(4)
		b := bench.Lie(t, 1, bench.Files(bench.Canon(n, r.Table(n)))...)
		got, e := tally.Amplitude(b.Desk, "f", anyTurns(&r, n))
		if got == 0 {
			zeros++
		}
		if e != api.OK || real(got) == 0 && math.Signbit(real(got)) || imag(got) == 0 && math.Signbit(imag(got)) {
			t.Errorf("%v, %d", got, e)
		}
	}
	if zeros < 5 {
		t.Errorf("%d sums are 0", zeros)
	}
}

// TestNewMemory: what is answered is changed by nobody, and changes nothing. G3.
func TestNewMemory(t *testing.T) {
	n := 3
	table := bench.Number(n, 0xEA)
	b := bench.Lie(t, 1, bench.Files(bench.Canon(n, table))...)
	x := factsOf(n, table, []int{1, 2, 3})
	got := all(b, "f", x.turns)
	x.tells(b, "f")
	got.count.SetInt64(99)
	got.paths.SetInt64(99)
	got.support[0], got.first[0] = 9, !got.first[0]
	x.tells(b, "f")
	for _, f := range []func() (*big.Int, api.Errno){
		func() (*big.Int, api.Errno) { return tally.Count(b.Desk, "f") },
		func() (*big.Int, api.Errno) { return tally.Paths(b.Desk, "f") },
	} {
		one, _ := f()
		two, _ := f()
		if one == two {
			t.Error("two answers are one number")
		}
	}
}

// TestTextsOfTheMostLevels: Cubes and First of a single path over all levels. P11.6, P11.7.
func TestTextsOfTheMostLevels(t *testing.T) {
	r := bench.Dice(11)
	want := make([]byte, most)
	var list []api.Rec
	next := T
	for l := most - 1; l >= 0; l-- {
		low, high := next, F
		if want[l] = '0'; r.Below(2) == 1 {
			low, high, want[l] = F, next, '1'
		}
		next = bench.At(l, 0)
		list = append(list, api.Rec{uint64(next), uint64(low), uint64(high), 0})
	}
	list = append(list, bench.End(most, next, most))
	b := bench.Lie(t, 100, bench.Files(list)...)
	if got := cubes(b, "f"); !slices.Equal(got, []string{string(want)}) {
		t.Errorf("Cubes: %d texts", len(got))
	}
	bits, e := tally.First(b.Desk, "f")
	if e != api.OK || len(bits) != most {
		t.Fatalf("First: %d truths, %d", len(bits), e)
	}
	for l, v := range bits {
		if v != (want[l] == '1') {
			t.Fatalf("First: level %d is %v", l, v)
		}
	}
	levels, e := tally.Support(b.Desk, "f")
	if e != api.OK || len(levels) != most || !slices.IsSorted(levels) || levels[most-1] != most-1 {
		t.Errorf("Support: %d levels, %d", len(levels), e)
	}
	if n, e := tally.Count(b.Desk, "f"); e != api.OK || n.Cmp(big.NewInt(1)) != 0 {
		t.Errorf("Count: %v, %d", n, e)
	}
	if got := strings.Count(string(want), "1"); got < most/3 {
		t.Errorf("%d levels are true", got)
	}
	b.AsBefore("a path through all levels")
}

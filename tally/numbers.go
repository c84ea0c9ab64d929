package tally

import (
	"iter"
	"math"
	"math/big"

	"strata/api"
)

// numbers are those that a descent reckons with. None of them is changed when it has been made.
type numbers[N any] interface {
	zero() N
	one() N
	plus(a, b N) N
	along(a N, from int, high bool, to int) N // what a becomes on an arc from a level to a deeper one
	parts(a N, key uint64) iter.Seq[api.Rec]  // records behind one key that together are a; of 0 there may be none
	part(r api.Rec) N                         // the number that one of them tells
}

// wholes are whole numbers of any size.
type wholes struct{}

func (wholes) zero() *big.Int { return new(big.Int) }

func (wholes) one() *big.Int { return big.NewInt(1) }

func (wholes) plus(a, b *big.Int) *big.Int { return new(big.Int).Add(a, b) }

// parts are a place and the two words of the number from there on; most numbers of many words have many that are 0.
func (wholes) parts(a *big.Int, key uint64) iter.Seq[api.Rec] {
	return func(yield func(api.Rec) bool) {
		words := a.Bits()
		for place := 0; place < len(words); place += 2 {
			r := api.Rec{key, uint64(place), uint64(words[place]), 0}
			if place+1 < len(words) {
				r[3] = uint64(words[place+1])
			}
			if r[2]|r[3] != 0 && !yield(r) {
				return
			}
		}
	}
}

func (wholes) part(r api.Rec) *big.Int {
	words := make([]big.Word, r[1]+2)
	words[r[1]], words[r[1]+1] = big.Word(r[2]), big.Word(r[3])
	return new(big.Int).SetBits(words)
}

// assignments counts assignments of the levels above a place: each level that an arc passes by has both truths.
type assignments struct{ wholes }

func (assignments) along(a *big.Int, from int, high bool, to int) *big.Int {
	return new(big.Int).Lsh(a, uint(to-from-1))
}

// paths counts paths.
type paths struct{ wholes }

func (paths) along(a *big.Int, from int, high bool, to int) *big.Int { return a }

// phases sums products of powers of i, which each level that is true has one of. Over so few levels both parts of all sums and products are whole numbers that a float64 holds.
type phases []int

func (phases) zero() complex128 { return 0 }

func (phases) one() complex128 { return 1 }

func (phases) plus(a, b complex128) complex128 { return a + b }

func (p phases) along(a complex128, from int, high bool, to int) complex128 {
	if high {
		a *= power(p[from])
	}
	for level := from + 1; level < to; level++ {
		a *= 1 + power(p[level])
	}
	return a
}

// power is i to the turn.
func power(turn int) complex128 {
	switch turn & 3 { // also of one below 0 the rest from 0 up
	case 0:
		return 1
	case 1:
		return 1i
	case 2:
		return -1
	}
	return -1i
}

func (phases) parts(a complex128, key uint64) iter.Seq[api.Rec] {
	return func(yield func(api.Rec) bool) {
		yield(api.Rec{key, math.Float64bits(real(a)), math.Float64bits(imag(a)), 0})
	}
}

func (phases) part(r api.Rec) complex128 {
	return complex(math.Float64frombits(r[1]), math.Float64frombits(r[2]))
}

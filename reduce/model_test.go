package reduce_test

import (
	"cmp"
	"slices"

	"strata/api"
)

// What the chapter's words say, by means of its own: numbers and maps in memory.

const (
	ids   = uint64(1) << 40 // of a level
	first = uint64(1) << 63 // the first leaf
)

func leaf(p uint64) bool { return p >= first }

func levelOf(p uint64) int {
	if leaf(p) {
		return 1 << 20
	}
	return int(p / ids)
}

// rest is a function of the levels from some level on: its truths, a byte each.
type rest string

// hang is the level from l on that a rest hangs on, and what it is there; -1: it is a leaf.
func (r rest) hang(l int) (int, rest) {
	for len(r) > 1 && r[:len(r)/2] == r[len(r)/2:] {
		l, r = l+1, r[len(r)/2:]
	}
	if len(r) == 1 {
		return -1, r
	}
	return l, r
}

// canon is the node file of a function over n levels, made as DOC.md says of the canonical diagram: by the rests of each level.
func canon(n int, table []bool) []api.Rec {
	text := make([]byte, len(table))
	for i, v := range table {
		if v {
			text[i] = 1
		}
	}
	level, root := rest(text).hang(0)
	levels := make([]map[rest]uint64, n) // the pointer of each rest that hangs on the level
	for l := range levels {
		levels[l] = map[rest]uint64{}
	}
	point := func(l int, r rest) uint64 {
		if l, r = r.hang(l); l < 0 {
			return first + uint64(r[0])
		}
		return levels[l][r]
	}
	if level >= 0 {
		levels[level][root] = 0
	}
	for l := range levels {
		for r := range levels[l] {
			for _, half := range []rest{r[:len(r)/2], r[len(r)/2:]} {
				if l, half := half.hang(l + 1); l >= 0 {
					levels[l][half] = 0
				}
			}
		}
	}
	var out []api.Rec
	for l := n - 1; l >= 0; l-- {
		var row []api.Rec
		from := map[[2]uint64]rest{}
		for r := range levels[l] {
			low, high := point(l+1, r[:len(r)/2]), point(l+1, r[len(r)/2:])
			row = append(row, api.Rec{0, low, high, 0})
			from[[2]uint64{low, high}] = r
		}
		slices.SortFunc(row, func(a, b api.Rec) int { return cmp.Or(cmp.Compare(a[1], b[1]), cmp.Compare(a[2], b[2])) })
		for i := range row {
			row[i][0] = uint64(l)*ids + uint64(i)
			levels[l][from[[2]uint64{row[i][1], row[i][2]}]] = row[i][0]
		}
		out = append(out, row...)
	}
	return append(out, api.Rec{^uint64(0), uint64(n), point(0, rest(text)), uint64(len(out))})
}

// truth is a leaf of a truth.
func truth(v int) uint64 { return first + uint64(v) }

func side(v bool) int {
	if v {
		return 1
	}
	return 0
}

// bit is the truth of level l in the assignment of that number.
func bit(n, number, l int) bool { return number>>(n-1-l)&1 == 1 }

// tableOf is a function that is told by its truth at each assignment.
func tableOf(n int, f func(x int) bool) []bool {
	out := make([]bool, 1<<n)
	for x := range out {
		out[x] = f(x)
	}
	return out
}

// means is the function of two tapes of arcs.
func means(inner, outer []api.Rec) []bool {
	to := map[[2]uint64]uint64{}
	for _, r := range inner {
		to[[2]uint64{r[1], r[2]}] = r[0]
	}
	last := len(outer) - 1
	for _, r := range outer[:last] {
		to[[2]uint64{r[0], r[1]}] = r[2]
	}
	n := int(outer[last][1])
	return tableOf(n, func(x int) bool {
		p := outer[last][2]
		for !leaf(p) {
			p = to[[2]uint64{p, uint64(side(bit(n, x, levelOf(p))))}]
		}
		return p == truth(1)
	})
}

// widthAt is how many nodes of a node file are at a level.
func widthAt(list []api.Rec, l int) int {
	n := 0
	for _, r := range list[:len(list)-1] {
		if levelOf(r[0]) == l {
			n++
		}
	}
	return n
}

package bench

import (
	"maps"
	"slices"

	"strata/api"
)

// Functions over n levels are tables of their truths; the number of an assignment has the truth of level 0 as its highest bit.

const (
	ids   = uint64(1) << 40 // of a level
	first = uint64(1) << 63 // the first leaf
)

// At is the pointer to a node.
func At(level, id int) api.Ptr { return api.Ptr(level<<40 + id) }

// End is what ends a node file, or arcs.
func End(n int, root api.Ptr, c int) api.Rec {
	return api.Rec{api.Mark, uint64(n), uint64(root), uint64(c)}
}

// TableOf is a function that is told by its truth at each assignment.
func TableOf(n int, f func(x int) bool) []bool {
	out := make([]bool, 1<<n)
	for x := range out {
		out[x] = f(x)
	}
	return out
}

// Number is the function over n levels whose truths are the bits of a number, the lowest first.
func Number(n, bits int) []bool {
	return TableOf(n, func(x int) bool { return bits>>x&1 == 1 })
}

// Bit is the truth of level l in an assignment.
func Bit(n, x, l int) bool { return x>>(n-1-l)&1 == 1 }

// With is the assignment in which level l has that truth.
func With(n, x, l int, v bool) int { return x&^(1<<(n-1-l)) | Side(v)<<(n-1-l) }

// Side is 1 of true.
func Side(v bool) int {
	if v {
		return 1
	}
	return 0
}

// HangsOn tells whether a function hangs on a level.
func HangsOn(n int, table []bool, l int) bool {
	for x, v := range table {
		if table[With(n, x, l, !Bit(n, x, l))] != v {
			return true
		}
	}
	return false
}

// canon is the canonical diagram of a function, by the words of DOC.md: its rests are texts, a byte for each truth.
type canon struct {
	n     int
	text  string
	nodes []map[string]uint64 // by level: the pointers of the rests that hang on it
}

// point is the pointer of a rest at level l.
func (c canon) point(l int, rest string) uint64 {
	for len(rest) > 1 && rest[:len(rest)/2] == rest[len(rest)/2:] {
		l, rest = l+1, rest[len(rest)/2:]
	}
	if len(rest) == 1 {
		return first + uint64(rest[0])
	}
	return c.nodes[l][rest]
}

// row are the nodes of level l, where those of the deeper levels are known.
func (c canon) row(l int) []api.Rec {
	half := 1 << (c.n - l - 1)
	from := map[[2]uint64]int{} // by low and high: where a rest stands in the text
	for i := 0; i < len(c.text); i += 2 * half {
		low, high := c.point(l+1, c.text[i:i+half]), c.point(l+1, c.text[i+half:i+2*half])
		if low != high {
			from[[2]uint64{low, high}] = i
		}
	}
	var out []api.Rec
	pairs := slices.SortedFunc(maps.Keys(from), func(a, b [2]uint64) int { return slices.Compare(a[:], b[:]) })
	for id, pair := range pairs {
		self := uint64(l)*ids + uint64(id)
		c.nodes[l][c.text[from[pair]:][:2*half]] = self
		out = append(out, api.Rec{self, pair[0], pair[1], 0})
	}
	return out
}

// Canon is the well-formed node file of a function over n levels.
func Canon(n int, table []bool) []api.Rec {
	text := make([]byte, len(table))
	for x, v := range table {
		text[x] = byte(Side(v))
	}
	c := canon{n: n, text: string(text)}
	for range n {
		c.nodes = append(c.nodes, map[string]uint64{})
	}
	var out []api.Rec
	for l := n - 1; l >= 0; l-- {
		out = append(out, c.row(l)...)
	}
	return append(out, End(n, api.Ptr(c.point(0, c.text)), len(out)))
}

// Spread is the node file over n levels in which each level of another one stands at its place; the places rise.
func Spread(list []api.Rec, n int, places []int) []api.Rec {
	move := func(p uint64) uint64 {
		if p >= first {
			return p
		}
		return node(places[p/ids], int(p%ids))
	}
	out := slices.Clone(list)
	last := len(out) - 1
	for i := range out[:last] {
		for w := range 3 {
			out[i][w] = move(out[i][w])
		}
	}
	out[last] = End(n, api.Ptr(move(out[last][2])), last)
	return out
}

// Width is how many nodes of a node file are at a level.
func Width(list []api.Rec, l int) int {
	n := 0
	for _, r := range list[:len(list)-1] {
		if r[0]/ids == uint64(l) {
			n++
		}
	}
	return n
}

// Gaps are tapes over 4 levels that are in rows, and no node files: a low or a high is at a level that has no node, or has an id that is not there; or no arc goes to a node.
func Gaps() [][]api.Rec {
	return [][]api.Rec{
		{{node(0, 0), leaf0, node(2, 0)}, End(4, 0, 1)},
		{{node(0, 0), node(3, 0), node(2, 0)}, End(4, 0, 1)},
		{{node(2, 0), leaf0, node(3, 5)}, {node(0, 0), node(1, 0), node(2, 0)}, End(4, 0, 2)},
		{{node(3, 0), leaf0, leaf1}, {node(0, 0), leaf0, node(3, 1<<40-1)}, End(4, 0, 2)},
		{{node(3, 0), leaf0, leaf1}, {node(0, 0), node(3, 0), node(3, 1)}, End(4, 0, 2)},
		{{node(3, 0), leaf0, leaf1}, {node(1, 0), leaf0, leaf1}, {node(0, 0), node(1, 0), leaf1}, End(4, 0, 3)},                                  // nothing goes to 3:0
		{{node(3, 0), leaf0, leaf1}, {node(3, 1), leaf1, leaf0}, {node(1, 0), node(3, 1), leaf1}, {node(0, 0), node(1, 0), leaf1}, End(4, 0, 4)}, // nor here
	}
}

// Orders calls do with each order of the numbers up to ahead of n.
func Orders(n int, do func(list []int)) {
	if n == 0 {
		do(nil)
		return
	}
	Orders(n-1, func(list []int) {
		for i := range n {
			do(slices.Insert(slices.Clone(list), i, n-1))
		}
	})
}

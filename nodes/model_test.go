package nodes_test

import (
	"cmp"
	"slices"

	"strata/api"
)

// What the chapter's words say of records, by means of its own: numbers alone.

const (
	ids   = uint64(1) << 40   // of a level
	first = uint64(1) << 63   // the first leaf
	all   = uint64(65536)     // levels
	many  = uint64(1)<<63 - 1 // nodes that an end may tell of
)

func leaf(p uint64) bool { return p == first || p == first+1 }

// isEnd tells whether a record is an end.
func isEnd(r api.Rec) bool {
	n, root, c := r[1], r[2], r[3]
	if r[0] != ^uint64(0) || n > all || c > many {
		return false
	}
	if leaf(root) {
		return c == 0
	}
	return root%ids == 0 && root/ids < n && c != 0
}

// isNode tells whether a record is a node record over n levels.
func isNode(r api.Rec, n uint64) bool {
	self, low, high := r[0], r[1], r[2]
	if self >= n*ids || low == high || r[3] != 0 {
		return false
	}
	next := (self/ids + 1) * ids // the first pointer of the level below
	for _, p := range []uint64{low, high} {
		if !leaf(p) && (p < next || p >= n*ids) {
			return false
		}
	}
	return true
}

// follows tells whether the node record t may follow s.
func follows(s, t api.Rec) bool {
	if t[0]/ids == s[0]/ids {
		return t[0]-s[0] == 1 && (t[1] > s[1] || t[1] == s[1] && t[2] > s[2])
	}
	return t[0] < s[0] && t[0]%ids == 0
}

// whole tells whether a tape has an end and as many records as that says.
func whole(list []api.Rec) bool {
	return len(list) > 0 && isEnd(list[len(list)-1]) && list[len(list)-1][3] == uint64(len(list)-1)
}

// upward is what Up gives of a whole tape ahead of its first fault, and whether there is one.
func upward(list []api.Rec) (int, bool) {
	c := len(list) - 1
	for i, r := range list[:c] {
		if !isNode(r, list[c][1]) || i == 0 && r[0]%ids != 0 || i > 0 && !follows(list[i-1], r) || i == c-1 && r[0] != list[c][2] {
			return i, true
		}
	}
	return c, false
}

// downward is the same of Down.
func downward(list []api.Rec) (int, bool) {
	c := len(list) - 1
	for i := c - 1; i >= 0; i-- {
		r := list[i]
		if !isNode(r, list[c][1]) || i == c-1 && r[0] != list[c][2] || i < c-1 && !follows(r, list[i+1]) || i == 0 && r[0]%ids != 0 {
			return c - 1 - i, true
		}
	}
	return c, false
}

// inRows tells whether a tape is in rows, by the word's own saying.
func inRows(list []api.Rec) bool {
	if !whole(list) {
		return false
	}
	c := len(list) - 1
	if c == 0 {
		return true
	}
	for i, r := range list[:c] {
		if !isNode(r, list[c][1]) || i > 0 && !follows(list[i-1], r) {
			return false
		}
	}
	return list[0][0]%ids == 0 && list[c-1][0] == list[c][2]
}

// wellFormed tells whether a tape is a well-formed node file: what is there and what is pointed to are the same.
func wellFormed(list []api.Rec) bool {
	if !inRows(list) {
		return false
	}
	there, told := map[uint64]int{}, map[uint64]int{list[len(list)-1][2]: 1}
	for _, r := range list[:len(list)-1] {
		there[r[0]] = 1
		told[r[1]], told[r[2]] = 1, 1
	}
	delete(told, first)
	delete(told, first+1)
	if len(there) != len(told) {
		return false
	}
	for p := range told {
		if there[p] == 0 {
			return false
		}
	}
	return true
}

// width is how many nodes the widest level of a tape in rows has.
func width(list []api.Rec) int {
	count, most := map[uint64]int{}, 0
	for _, r := range list[:len(list)-1] {
		count[r[0]/ids]++
		most = max(most, count[r[0]/ids])
	}
	return most
}

// nodesOf are the nodes of a tape in rows.
func nodesOf(list []api.Rec) []api.Node {
	var out []api.Node
	for _, r := range list[:len(list)-1] {
		out = append(out, api.Node{Self: api.Ptr(r[0]), Low: api.Ptr(r[1]), High: api.Ptr(r[2])})
	}
	return out
}

// infoOf is what an end tells.
func infoOf(r api.Rec) api.Info {
	return api.Info{Vars: int(r[1]), Root: api.Ptr(r[2]), Nodes: int(r[3])}
}

// rest is a function of the levels from some level on: its truths, a byte each.
type rest string

// hang is the level from l on that a rest hangs on, and what it is there; n: it is a leaf.
func (r rest) hang(l int) (int, rest) {
	for len(r) > 1 && r[:len(r)/2] == r[len(r)/2:] {
		l, r = l+1, r[len(r)/2:]
	}
	if len(r) == 1 {
		return -1, r
	}
	return l, r
}

// canon is the node file of a function over n levels, made as DOC.md says of the canonical diagram: by the rests of each level.
func canon(n int, table []bool) []api.Rec {
	text := make([]byte, len(table))
	for i, v := range table {
		if v {
			text[i] = 1
		}
	}
	level, root := rest(text).hang(0)
	levels := make([]map[rest]uint64, n) // the pointer of each rest that hangs on the level
	for l := range levels {
		levels[l] = map[rest]uint64{}
	}
	point := func(l int, r rest) uint64 {
		if l, r = r.hang(l); l < 0 {
			return first + uint64(r[0])
		}
		return levels[l][r]
	}
	if level >= 0 {
		levels[level][root] = 0
	}
	for l := range levels {
		for r := range levels[l] {
			for _, half := range []rest{r[:len(r)/2], r[len(r)/2:]} {
				if l, half := half.hang(l + 1); l >= 0 {
					levels[l][half] = 0
				}
			}
		}
	}
	var out []api.Rec
	for l := n - 1; l >= 0; l-- {
		var row []api.Rec
		from := map[[2]uint64]rest{}
		for r := range levels[l] {
			low, high := point(l+1, r[:len(r)/2]), point(l+1, r[len(r)/2:])
			row = append(row, api.Rec{0, low, high, 0})
			from[[2]uint64{low, high}] = r
		}
		slices.SortFunc(row, func(a, b api.Rec) int { return cmp.Or(cmp.Compare(a[1], b[1]), cmp.Compare(a[2], b[2])) })
		for i := range row {
			row[i][0] = uint64(l)*ids + uint64(i)
			levels[l][from[[2]uint64{row[i][1], row[i][2]}]] = row[i][0]
		}
		out = append(out, row...)
	}
	return append(out, api.Rec{^uint64(0), uint64(n), point(0, rest(text)), uint64(len(out))})
}

// bitsOf is the assignment of that number.
func bitsOf(n, number int) []bool {
	bits := make([]bool, n)
	for l := range bits {
		bits[l] = number>>(n-1-l)&1 == 1
	}
	return bits
}

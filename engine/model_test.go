package engine_test

import (
	"bytes"
	"fmt"
	"slices"
	"strings"

	"strata/api"
	"strata/bench"
	"strata/recs"
)

const last = 1<<64 - 1

// The names of files, by the words of chapter 17.
func catName(gen uint64) string { return fmt.Sprintf("cat-%016x", gen) }

func fileName(n uint64) string { return fmt.Sprintf("dd-%016x", n) }

// model is what an engine is, by the words of its chapter: each handle a function of variables. The number of an assignment has the truth of variable 0 as its highest bit.
type model struct {
	k, blocks int // of the disk
	ids       int
	table     api.Rows
	gen       uint64
	files     map[uint64][]bool // by number: the function
}

// newModel is an engine on an empty disk.
func newModel(k, blocks int, o api.Options) *model {
	m := &model{k: k, blocks: blocks, ids: o.Ids, gen: 1, files: map[uint64][]bool{}}
	m.table = api.Rows{Vars: o.Vars, Next: 1, NextFile: 1}
	for v := range o.Vars {
		m.table.Order = append(m.table.Order, v)
	}
	return m
}

func (m *model) clone() *model {
	c := *m
	c.table.Order = slices.Clone(m.table.Order)
	c.table.Rows = slices.Clone(m.table.Rows)
	c.files = map[uint64][]bool{}
	for _, row := range m.table.Rows {
		c.files[row.File] = m.files[row.File]
	}
	return &c
}

// row is that of a handle.
func (m *model) row(handle int) (api.Row, bool) {
	for _, row := range m.table.Rows {
		if row.Handle == handle {
			return row, true
		}
	}
	return api.Row{}, false
}

// live tells whether all these are handles.
func (m *model) live(handles ...int) bool {
	for _, h := range handles {
		if _, there := m.row(h); !there {
			return false
		}
	}
	return true
}

// function is that of a handle; nil: there is none.
func (m *model) function(handle int) []bool {
	row, _ := m.row(handle)
	return m.files[row.File]
}

// handles are the live ones, rising.
func (m *model) handles() []int {
	var list []int
	for _, row := range m.table.Rows {
		list = append(list, row.Handle)
	}
	return list
}

// numbers are those of the rows' files, rising, each once.
func (m *model) numbers() []uint64 {
	var list []uint64
	for _, row := range m.table.Rows {
		list = append(list, row.File)
	}
	slices.Sort(list)
	return slices.Compact(list)
}

// inOrder is a function of variables as one of levels, over an order.
func inOrder(order []int, f []bool) []bool {
	n := len(order)
	return bench.TableOf(n, func(byLevel int) bool { return f[byVariable(order, byLevel)] })
}

// byVariable is the assignment of variables that an assignment of levels is.
func byVariable(order []int, byLevel int) int {
	x := 0
	for l, v := range order {
		x = bench.With(len(order), x, v, bench.Bit(len(order), byLevel, l))
	}
	return x
}

// ofLevels is a function of levels as one of variables.
func ofLevels(order []int, f []bool) []bool {
	out := make([]bool, len(f))
	for byLevel, v := range f {
		out[byVariable(order, byLevel)] = v
	}
	return out
}

// records are those of a function's file in the present order.
func (m *model) records(f []bool) []api.Rec {
	return bench.Canon(m.table.Vars, inOrder(m.table.Order, f))
}

// widest is how many nodes the widest level of a node file has.
func widest(n int, list []api.Rec) int {
	most := 0
	for l := range n {
		most = max(most, bench.Width(list, l))
	}
	return most
}

// strip is a sealed file of these records.
func strip(name string, kind, k int, list []api.Rec) api.File {
	f := api.File{Name: name, Sealed: true}
	for piece := range slices.Chunk(list, k) {
		block, e := recs.Encode(kind, len(f.Blocks), piece, 32*(k+1))
		if e != api.OK {
			panic(e)
		}
		f.Blocks = append(f.Blocks, block)
	}
	return f
}

// catalogOf is the file of a table.
func catalogOf(k int, r api.Rows, gen uint64) api.File {
	var list []api.Rec
	for i, v := range r.Order {
		list = append(list, api.Rec{uint64(i), uint64(v), 0, 1})
	}
	for _, row := range r.Rows {
		list = append(list, api.Rec{uint64(row.Handle), row.File, 0, 2})
	}
	return strip(catName(gen), api.KindTable, k, append(list, api.Rec{api.Mark, gen, uint64(r.Next), r.NextFile}))
}

// stateOf is a disk that holds these files.
func stateOf(k int, files ...api.File) api.State {
	st := api.State{Block: 32 * (k + 1), Files: slices.Clone(files)}
	slices.SortFunc(st.Files, func(a, b api.File) int { return strings.Compare(a.Name, b.Name) })
	return st
}

// state is all that the disk holds at rest.
func (m *model) state() api.State {
	files := []api.File{catalogOf(m.k, m.table, m.gen)}
	for _, n := range m.numbers() {
		files = append(files, strip(fileName(n), api.KindNodes, m.k, m.records(m.files[n])))
	}
	return stateOf(m.k, files...)
}

// sameState tells whether disks hold the same.
func sameState(a, b api.State) bool {
	return a.Block == b.Block && slices.EqualFunc(a.Files, b.Files, func(f, g api.File) bool {
		return f.Name == g.Name && f.Sealed == g.Sealed && slices.EqualFunc(f.Blocks, g.Blocks, bytes.Equal)
	})
}

func namesIn(st api.State) []string {
	var list []string
	for _, f := range st.Files {
		list = append(list, f.Name)
	}
	return list
}

// blocksOf is how many blocks so many records have.
func (m *model) blocksOf(records int) int { return (records + m.k - 1) / m.k }

// full tells whether a table leaves no way back. P18.9.
func (m *model) full(next *model) bool {
	sum := 2 * m.blocksOf(next.table.Vars+len(next.table.Rows)+1)
	for _, n := range next.numbers() {
		sum += m.blocksOf(len(next.records(next.files[n])))
	}
	return sum > m.blocks
}

// commit goes on with a table, if there may be one.
func (m *model) commit(next *model) api.Errno {
	if m.gen == last {
		return api.ErrWorn
	}
	next.gen++
	*m = *next
	return api.OK
}

// enter is that, if the way back stays free.
func (m *model) enter(next *model) api.Errno {
	if m.full(next) {
		return api.ErrFull
	}
	return m.commit(next)
}

// making is what a step that makes is asked for and makes.
type making struct {
	handles []int
	wrong   api.Fault        // of the numbers and texts
	late    func() api.Fault // of the operation
	f       func(x int) bool // the function
}

// make is a step that makes. P18.2.
func (m *model) make(s making) answer {
	if !m.live(s.handles...) {
		return refused(api.ErrHandle)
	}
	if s.wrong != (api.Fault{}) {
		return answer{fault: s.wrong}
	}
	if len(m.table.Rows) >= 1024 {
		return refused(api.ErrMany)
	}
	if m.table.Next > 1<<31-1 || m.table.NextFile == last {
		return refused(api.ErrWorn)
	}
	if s.late != nil {
		if f := s.late(); f != (api.Fault{}) {
			return answer{fault: f}
		}
	}
	table := bench.TableOf(m.table.Vars, s.f)
	if widest(m.table.Vars, m.records(table)) > m.ids {
		return refused(api.ErrIds)
	}
	next := m.clone()
	next.table.Rows = append(next.table.Rows, api.Row{Handle: m.table.Next, File: m.table.NextFile})
	next.files[m.table.NextFile] = table
	next.table.Next++
	next.table.NextFile++
	if e := m.enter(next); e != api.OK {
		return refused(e)
	}
	return said(m.table.Next - 1)
}

// copy is the step Copy. P18.2.
func (m *model) copy(f int) answer {
	row, there := m.row(f)
	switch {
	case !there:
		return refused(api.ErrHandle)
	case len(m.table.Rows) >= 1024:
		return refused(api.ErrMany)
	case m.table.Next > 1<<31-1:
		return refused(api.ErrWorn)
	}
	next := m.clone()
	next.table.Rows = append(next.table.Rows, api.Row{Handle: m.table.Next, File: row.File})
	next.table.Next++
	if e := m.enter(next); e != api.OK {
		return refused(e)
	}
	return said(m.table.Next - 1)
}

// free is the step Free. P18.3.
func (m *model) free(f int) answer {
	if !m.live(f) {
		return refused(api.ErrHandle)
	}
	next := m.clone()
	next.table.Rows = slices.DeleteFunc(next.table.Rows, func(row api.Row) bool { return row.Handle == f })
	return refused(m.commit(next))
}

// take takes an order. P18.4.
func (m *model) take(order []int) answer {
	old := m.numbers()
	if uint64(len(old)) > last-m.table.NextFile {
		return refused(api.ErrWorn)
	}
	next := m.clone()
	next.table.Order = slices.Clone(order)
	next.files = map[uint64][]bool{}
	for i, n := range old {
		next.files[m.table.NextFile+uint64(i)] = m.files[n]
		for r := range next.table.Rows {
			if m.table.Rows[r].File == n {
				next.table.Rows[r].File = m.table.NextFile + uint64(i)
			}
		}
	}
	next.table.NextFile += uint64(len(old))
	for _, n := range next.numbers() {
		if widest(next.table.Vars, next.records(next.files[n])) > m.ids {
			return refused(api.ErrIds)
		}
	}
	return refused(m.enter(next))
}

// isOrder tells whether a list has each variable just once.
func (m *model) isOrder(list []int) bool {
	all := slices.Sorted(slices.Values(list))
	for i, v := range all {
		if i != v {
			return false
		}
	}
	return len(all) == m.table.Vars
}

// reorder is the step Reorder. P18.4.
func (m *model) reorder(order []int) answer {
	switch {
	case !m.isOrder(order):
		return refused(api.ErrPerm)
	case slices.Equal(order, m.table.Order):
		return refused(api.OK)
	}
	return m.take(order)
}

// best is the order that sifting comes to, by the words of chapter 12, of variables.
func (m *model) best() []int {
	cost := func(order []int) int {
		sum := 0
		for _, n := range m.numbers() {
			sum += len(bench.Canon(len(order), inOrder(order, m.files[n]))) - 1
		}
		return sum
	}
	cur := slices.Clone(m.table.Order)
	for _, v := range m.table.Order {
		own := slices.Index(cur, v)
		rest := slices.Delete(slices.Clone(cur), own, own+1)
		tried := make([][]int, len(cur))
		least, where := cost(cur), own
		for p := range cur {
			tried[p] = slices.Insert(slices.Clone(rest), p, v)
			if c := cost(tried[p]); c < least {
				least, where = c, p
			}
		}
		cur = tried[where]
	}
	return cur
}

// dumped is the text of a node file, by the words of chapter 16.
func dumped(list []api.Rec) string {
	point := func(p uint64) string {
		switch api.Ptr(p) {
		case api.False:
			return "F"
		case api.True:
			return "T"
		}
		return fmt.Sprintf("%d:%d", p>>40, p&(1<<40-1))
	}
	end := list[len(list)-1]
	text := fmt.Sprintf("strata 1\nlevels %d\nnodes %d\n", end[1], end[3])
	for _, r := range list[:len(list)-1] {
		text += fmt.Sprintf("%s %s %s\n", point(r[0]), point(r[1]), point(r[2]))
	}
	return text + fmt.Sprintf("root %s\n", point(end[2]))
}

package catalog_test

import (
	"bytes"
	"fmt"
	"regexp"
	"slices"
	"strconv"
	"testing"

	"strata/api"
	"strata/bench"
	"strata/catalog"
	"strata/recs"
)

const last = 1<<64 - 1

// The names of files, by the chapter's words.
func catName(gen uint64) string { return fmt.Sprintf("cat-%016x", gen) }

func fileName(n uint64) string { return fmt.Sprintf("dd-%016x", n) }

var aCatalog = regexp.MustCompile("^cat-[0-9a-f]{16}$")

// generationOf is that of a catalog's name; 0 of another name.
func generationOf(name string) uint64 {
	if !aCatalog.MatchString(name) {
		return 0
	}
	gen, _ := strconv.ParseUint(name[4:], 16, 64)
	return gen
}

// table is one whose variables stand the other way round.
func table(vars, next int, nextFile uint64, rows ...api.Row) api.Rows {
	r := api.Rows{Vars: vars, Next: next, NextFile: nextFile, Rows: rows}
	for i := range vars {
		r.Order = append(r.Order, vars-1-i)
	}
	return r
}

// same tells whether tables are the same, nil and empty lists aside.
func same(a, b api.Rows) bool {
	return a.Vars == b.Vars && a.Next == b.Next && a.NextFile == b.NextFile && slices.Equal(a.Order, b.Order) && slices.Equal(a.Rows, b.Rows)
}

// isFormed is the chapter's list, word by word.
func isFormed(r api.Rows) bool {
	times := map[int]int{}
	for _, v := range r.Order {
		times[v]++
	}
	for v := range min(max(r.Vars, 0), len(r.Order)+1) {
		if times[v] != 1 {
			return false
		}
	}
	for i, row := range r.Rows {
		if row.Handle < 1 || i > 0 && row.Handle <= r.Rows[i-1].Handle || row.File >= r.NextFile || r.Next <= row.Handle {
			return false
		}
	}
	return r.Vars >= 0 && r.Vars <= 65536 && len(r.Order) == r.Vars && len(r.Rows) <= 1024 && r.Next >= 1 && r.Next <= 2147483648
}

// recordsOf are a catalog's records, by the chapter's words.
func recordsOf(r api.Rows, gen uint64) []api.Rec {
	var list []api.Rec
	for i, v := range r.Order {
		list = append(list, api.Rec{uint64(i), uint64(v), 0, 1})
	}
	for _, row := range r.Rows {
		list = append(list, api.Rec{uint64(row.Handle), row.File, 0, 2})
	}
	return append(list, api.Rec{api.Mark, gen, uint64(r.Next), r.NextFile})
}

// tableOf is the only table whose records these may be, and whether they are.
func tableOf(list []api.Rec, gen uint64) (api.Rows, bool) {
	if len(list) == 0 {
		return api.Rows{}, false
	}
	end := list[len(list)-1]
	r := api.Rows{Next: int(end[2]), NextFile: end[3]}
	for _, x := range list[:len(list)-1] {
		if x[3] == 1 {
			r.Order = append(r.Order, int(x[1]))
		} else {
			r.Rows = append(r.Rows, api.Row{Handle: int(x[0]), File: x[1]})
		}
	}
	r.Vars = len(r.Order)
	return r, isFormed(r) && slices.Equal(recordsOf(r, gen), list)
}

// tape is a sealed file of these records.
func tape(name string, kind, k int, list []api.Rec) api.File {
	f := api.File{Name: name, Sealed: true}
	for piece := range slices.Chunk(list, k) {
		block, e := recs.Encode(kind, len(f.Blocks), piece, 32*(k+1))
		if e != api.OK {
			panic(e)
		}
		f.Blocks = append(f.Blocks, block)
	}
	return f
}

// cat is a catalog.
func cat(k int, gen uint64, r api.Rows) api.File {
	return tape(catName(gen), api.KindTable, k, recordsOf(r, gen))
}

// dd is a diagram's file: what it holds is nobody's business here.
func dd(k int, n uint64) api.File {
	return tape(fileName(n), api.KindNodes, k, []api.Rec{{n, 1, 2, 3}})
}

// some is a file with a block that is none.
func some(k int, name string, sealed bool) api.File {
	return api.File{Name: name, Sealed: sealed, Blocks: [][]byte{bytes.Repeat([]byte{7}, 32*(k+1))}}
}

// disk holds these files.
func disk(k int, files ...api.File) api.State {
	st := api.State{Block: 32 * (k + 1), Files: slices.Clone(files)}
	slices.SortFunc(st.Files, func(a, b api.File) int { return bytes.Compare([]byte(a.Name), []byte(b.Name)) })
	return st
}

// find is a file of a disk, by its name.
func find(st api.State, name string) (api.File, bool) {
	for _, f := range st.Files {
		if f.Name == name {
			return f, true
		}
	}
	return api.File{}, false
}

// namesOf are the names of a disk's files.
func namesOf(st api.State) []string {
	var list []string
	for _, f := range st.Files {
		list = append(list, f.Name)
	}
	return list
}

// answer is what Read and Recover answer.
type answer struct {
	r   api.Rows
	gen uint64
	e   api.Errno
}

func refused(e api.Errno) answer { return answer{e: e} }

func (a answer) is(b answer) bool { return same(a.r, b.r) && a.gen == b.gen && a.e == b.e }

// recordsIn are those of a catalog's file, or the refusal of reading it.
func recordsIn(st api.State, f api.File) ([]api.Rec, api.Errno) {
	var all []api.Rec
	for i, block := range f.Blocks {
		list, e := recs.Decode(api.KindTable, i, block)
		if e != api.OK {
			return nil, e
		}
		if len(list) == 0 || len(list) < st.Block/32-1 && i < len(f.Blocks)-1 {
			return nil, api.ErrForm
		}
		all = append(all, list...)
	}
	return all, api.OK
}

// readOf is what Read answers of a disk, by the chapter's words.
func readOf(st api.State) answer {
	var newest api.File
	for _, f := range st.Files {
		if f.Sealed && generationOf(f.Name) > generationOf(newest.Name) {
			newest = f
		}
	}
	gen := generationOf(newest.Name)
	if gen == 0 {
		return answer{}
	}
	list, e := recordsIn(st, newest)
	if e != api.OK {
		return refused(e)
	}
	r, ok := tableOf(list, gen)
	if !ok {
		return refused(api.ErrRows)
	}
	for _, row := range r.Rows {
		if f, there := find(st, fileName(row.File)); !there || !f.Sealed {
			return refused(api.ErrRows)
		}
	}
	return answer{r, gen, api.OK}
}

// stays tells whether a file stays where a table of that generation is the newest one.
func stays(name string, r api.Rows, gen uint64) bool {
	return gen > 0 && name == catName(gen) || slices.ContainsFunc(r.Rows, func(row api.Row) bool { return name == fileName(row.File) })
}

// tidied is what is left of a disk then.
func tidied(st api.State, r api.Rows, gen uint64) api.State {
	st.Files = slices.DeleteFunc(slices.Clone(st.Files), func(f api.File) bool { return !stays(f.Name, r, gen) })
	return st
}

// commitOf is what Commit answers and what it leaves of a disk, by the chapter's words, the budget aside.
func commitOf(st api.State, r api.Rows, gen uint64) (api.State, api.Errno) {
	if !isFormed(r) {
		return st, api.ErrRows
	}
	if gen == last {
		return st, api.ErrWorn
	}
	for _, f := range st.Files {
		if generationOf(f.Name) > gen {
			return st, api.ErrExists
		}
	}
	rows := slices.Clone(r.Rows)
	slices.SortFunc(rows, func(a, b api.Row) int {
		if a.File < b.File {
			return -1
		}
		return 1
	})
	for _, row := range rows {
		f, there := find(st, fileName(row.File))
		if !there {
			return st, api.ErrNoFile
		}
		if !f.Sealed {
			return st, api.ErrOpen
		}
	}
	return tidied(disk(st.Block/32-1, append(st.Files, cat(st.Block/32-1, gen+1, r))...), r, gen+1), api.OK
}

// equal tells whether disks hold the same.
func equal(a, b api.State) bool {
	return a.Block == b.Block && slices.EqualFunc(a.Files, b.Files, func(f, g api.File) bool {
		return f.Name == g.Name && f.Sealed == g.Sealed && slices.EqualFunc(f.Blocks, g.Blocks, bytes.Equal)
	})
}

// bed is a bench at a disk, with what a whole operation needs.
func bed(t *testing.T, st api.State, troubles ...api.Trouble) bench.Bench {
	t.Helper()
	return bench.Mount(t, st, api.LeastK*(st.Block/32-1), troubles...)
}

// holds fails the test unless a disk holds just that, and no records are out.
func holds(b bench.Bench, what any, want api.State) {
	b.Helper()
	if got := b.Disk().State(); !equal(got, want) {
		b.Fatalf("%v: the disk holds %v, want %v", what, namesOf(got), namesOf(want))
	}
	b.Out(what)
}

func read(b bench.Bench) answer {
	r, gen, e := catalog.Read(b.Desk)
	return answer{r, gen, e}
}

func recover1(b bench.Bench) answer {
	r, gen, e := catalog.Recover(b.Desk)
	return answer{r, gen, e}
}

// readsAs fails the test unless Read answers that, asks for nothing but blocks, and leaves all as it was.
func readsAs(b bench.Bench, what any, want answer) {
	b.Helper()
	st, was := b.Disk().State(), b.Disk().Counts()
	if got := read(b); !got.is(want) {
		b.Fatalf("%v: Read of %v: %+v, want %+v", what, namesOf(st), got, want)
	}
	now := b.Disk().Counts()
	if now.Calls-was.Calls != now.Reads-was.Reads+now.Faults-was.Faults {
		b.Fatalf("%v: Read has asked for more than blocks: %+v, then %+v", what, was, now)
	}
	holds(b, what, st)
}

// recoversAs fails the test unless Recover answers that and leaves what it must.
func recoversAs(b bench.Bench, what any, want answer) {
	b.Helper()
	st := b.Disk().State()
	if got := recover1(b); !got.is(want) {
		b.Fatalf("%v: Recover of %v: %+v, want %+v", what, namesOf(st), got, want)
	}
	if want.e == api.OK {
		st = tidied(st, want.r, want.gen)
	}
	holds(b, what, st)
}

// commits fails the test unless Commit answers and leaves what the chapter says.
func commits(b bench.Bench, what any, r api.Rows, gen uint64) api.Errno {
	b.Helper()
	want, e := commitOf(b.Disk().State(), r, gen)
	b.Is(what, catalog.Commit(b.Desk, r, gen), e)
	holds(b, what, want)
	return e
}

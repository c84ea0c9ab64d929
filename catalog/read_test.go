package catalog_test

import (
	"slices"
	"testing"

	"strata/api"
	"strata/bench"
	"strata/catalog"
	"strata/recs"
)

// base is a table with levels and rows, two of one file.
func base() api.Rows {
	return api.Rows{Vars: 3, Order: []int{2, 0, 1}, Rows: []api.Row{{Handle: 1, File: 3}, {Handle: 4, File: 0}, {Handle: 5, File: 3}}, Next: 7, NextFile: 5}
}

// bases are tables of all forms.
func bases() []api.Rows {
	mixed := api.Rows{Vars: 2, Order: []int{0, 1}, Rows: []api.Row{{Handle: 1, File: 1}}, Next: 3, NextFile: 5} // its row and its last level tell the same numbers
	return []api.Rows{base(), mixed, table(0, 1, 0), table(2, 1, 0), table(0, 9, 5, base().Rows...), table(1, 1<<31, last, api.Row{Handle: 1<<31 - 1, File: 4})}
}

// filesUpTo are the diagrams' files of the numbers up to ahead of n.
func filesUpTo(k, n int) []api.File {
	var files []api.File
	for i := range n {
		files = append(files, dd(k, uint64(i)))
	}
	return files
}

// bents are the record lists that one change makes of a list.
func bents(list []api.Rec) [][]api.Rec {
	var out [][]api.Rec
	for i := range list {
		for w := range 4 {
			for _, v := range []uint64{0, 1, 2, 3, 4, 5, 6, 7, 8, 9, 1 << 31, 1<<31 + 1, 1<<32 + 1, 1<<63 + 1, last - 1, last, list[i][w] + 1, list[i][w] - 1} {
				bent := slices.Clone(list)
				bent[i][w] = v
				out = append(out, bent)
			}
		}
		for j := range list {
			bent := slices.Clone(list)
			bent[i], bent[j] = bent[j], bent[i]
			out = append(out, bent, slices.Insert(slices.Clone(list), i, list[j]))
		}
		out = append(out, slices.Delete(slices.Clone(list), i, i+1), slices.Clone(list[:i]), slices.Clone(list[i:]), append(slices.Clone(list), list[i]))
		for _, more := range []api.Rec{{}, {uint64(i), 0, 0, 1}, {uint64(i), 0, 0, 2}, {api.Mark, 7, 1, 1}} {
			out = append(out, slices.Insert(slices.Clone(list), i, more), append(slices.Clone(list), more))
		}
	}
	return out
}

// TestReadHandMade: a catalog with any change tells a table just if its records are those of one. P17.2, P17.6.
func TestReadHandMade(t *testing.T) {
	const gen = 7
	for _, k := range []int{1, 2, 3, 8} {
		told := map[api.Errno]int{}
		for _, r := range bases() {
			for _, list := range append(bents(recordsOf(r, gen)), recordsOf(r, gen)) {
				st := disk(k, append(filesUpTo(k, 5), tape(catName(gen), api.KindTable, k, list), some(k, "x", false))...)
				want := readOf(st)
				readsAs(bed(t, st), list, want)
				recoversAs(bed(t, st), list, want)
				if told[want.e]++; want.e == api.OK && !catalog.Formed(want.r) {
					t.Fatalf("%+v is not formed", want.r)
				}
			}
		}
		if len(told) != 2 || told[api.OK] < 100 || told[api.ErrRows] < 1000 {
			t.Errorf("K %d: %v", k, told)
		}
	}
}

// TestNewest: the greatest generation of which a catalog is sealed, whatever else has a name like one. P17.2.
func TestNewest(t *testing.T) {
	const k = 2
	gens := []uint64{0, 1, 2, 9, 10, 15, 16, 255, 1 << 63, last}
	odd := []string{"cat", "cat-", "cat-9", "cat-00000000000000ff0", "cat-000000000000000g", "cat--000000000000001", "cat-0x00000000000001", "cat-000000000000000.", "cat.0000000000000001", "ca-0000000000000001", "dat-00000000000000ff", "cat-ffffffffffffffff0", "00000000000000ff", "cat-cat-000000000000", "cat-cat-0000000000000001"}
	for i, sealed := range gens {
		for _, open := range gens {
			var files []api.File
			for _, name := range odd {
				files = append(files, some(k, name, true))
			}
			for _, older := range gens[:i+1] {
				files = append(files, cat(k, older, table(int(older%5), 1, 0)))
			}
			if open > sealed {
				files = append(files, some(k, catName(open), false))
			}
			st := disk(k, files...)
			want := answer{table(int(sealed%5), 1, 0), sealed, api.OK}
			if sealed == 0 {
				want = answer{}
			}
			readsAs(bed(t, st), sealed, want)
			recoversAs(bed(t, st), sealed, want)
			b := bed(t, st)
			b.Is(open, commits(b, open, table(1, 1, 1), max(open, sealed)), map[bool]api.Errno{true: api.ErrWorn}[max(open, sealed) == last])
		}
	}
}

// TestReadRowsFiles: a row whose file is not there, or not sealed. P17.2, P17.4.
func TestReadRowsFiles(t *testing.T) {
	const k, gen = 3, 12
	r := base()
	for _, c := range []struct {
		what  string
		files []api.File
		want  api.Errno
	}{
		{"all there", []api.File{dd(k, 0), dd(k, 3)}, api.OK},
		{"an empty one", []api.File{{Name: fileName(0), Sealed: true}, some(k, fileName(3), true)}, api.OK},
		{"more", filesUpTo(k, 9), api.OK},
		{"one not sealed", []api.File{dd(k, 0), some(k, fileName(3), false)}, api.ErrRows},
		{"the other not sealed", []api.File{some(k, fileName(0), false), dd(k, 3)}, api.ErrRows},
		{"one not there", []api.File{dd(k, 0), dd(k, 4)}, api.ErrRows},
		{"none there", nil, api.ErrRows},
	} {
		for _, older := range []bool{false, true} {
			files := append(c.files, cat(k, gen, r), some(k, "junk", true))
			if older { // which is no way out
				files = append(files, cat(k, gen-1, table(3, 1, 0)))
			}
			st := disk(k, files...)
			want := answer{r, gen, api.OK}
			if c.want != api.OK {
				want = refused(c.want)
			}
			readsAs(bed(t, st), c.what, want)
			recoversAs(bed(t, st), c.what, want)
		}
	}
}

// with is a catalog's file with another block in some place.
func with(f api.File, i int, block []byte) api.File {
	f.Blocks = slices.Clone(f.Blocks)
	f.Blocks[i] = block
	return f
}

// block is one of these records.
func block(kind, place, k int, list ...api.Rec) []byte {
	out, e := recs.Encode(kind, place, list, 32*(k+1))
	if e != api.OK {
		panic(e)
	}
	return out
}

// summed is a block with one byte changed, and a sum that fits.
func summed(block []byte, i int, to byte) []byte {
	block = slices.Clone(block[:len(block)-4])
	block[i] = to
	sum := recs.Sum(block)
	return append(block, byte(sum), byte(sum>>8), byte(sum>>16), byte(sum>>24))
}

// TestReadNoTape: a sealed catalog that is no tape of its kind is refused as reading is, whatever its records ahead say; an older one does not take its place. P17.2, P17.7.
func TestReadNoTape(t *testing.T) {
	const k, gen = 2, 9
	list := recordsOf(base(), gen)
	good := cat(k, gen, base())
	wrong := tape(good.Name, api.KindTable, k, append([]api.Rec{list[0], list[0]}, list...))
	junk := make([]byte, 32*(k+1))
	short := block(api.KindTable, 1, k, list[2])
	for _, c := range []struct {
		what string
		f    api.File
		want api.Errno
	}{
		{"another kind", tape(good.Name, api.KindRaw, k, list), api.ErrKind},
		{"another kind behind", with(good, 3, block(api.KindNodes, 3, k, list[6])), api.ErrKind},
		{"another place", with(good, 2, block(api.KindTable, 3, k, list[4], list[5])), api.ErrKind},
		{"zeros", with(good, 0, junk), api.ErrSpoilt},
		{"zeros behind", with(good, 3, junk), api.ErrSpoilt},
		{"short within", with(good, 1, short), api.ErrForm},
		{"another version", with(good, 3, summed(good.Blocks[3], 4, 2)), api.ErrForm},
		{"no records in a block", with(good, 3, summed(block(api.KindTable, 3, k, api.Rec{}), 6, 0)), api.ErrForm},
		{"zeros behind wrong records", with(wrong, 3, junk), api.ErrSpoilt},
		{"another kind behind wrong records", with(wrong, 3, block(api.KindRaw, 3, k, list[4], list[5])), api.ErrKind},
		{"short behind wrong records", with(wrong, 2, block(api.KindTable, 2, k, list[4])), api.ErrForm},
		{"zeros behind the end", api.File{Name: good.Name, Sealed: true, Blocks: append(slices.Clone(tape(good.Name, api.KindTable, k, append(list[:5:5], list[6])).Blocks), junk)}, api.ErrSpoilt},
		{"no blocks", api.File{Name: good.Name, Sealed: true}, api.ErrRows},
		{"wrong records", wrong, api.ErrRows},
	} {
		st := disk(k, append(filesUpTo(k, 5), c.f, cat(k, gen-1, base()), cat(k, gen-4, table(1, 1, 1)), some(k, "x", false))...)
		if want := readOf(st); want.e != c.want {
			t.Errorf("%s: the model says %d", c.what, want.e)
		}
		readsAs(bed(t, st), c.what, refused(c.want))
		recoversAs(bed(t, st), c.what, refused(c.want))
		b := bed(t, st)
		b.Is(c.what, commits(b, c.what, base(), gen), api.OK) // which does not look at the old one
		readsAs(b, c.what, answer{base(), gen + 1, api.OK})
	}
}

// TestNewMemory: what is answered shares nothing with another answer, and what is handed in is neither kept nor changed. G3.
func TestNewMemory(t *testing.T) {
	b := bed(t, disk(1, filesUpTo(1, 5)...))
	order := []int{2, 0, 1, 77, 78}
	rows := append(base().Rows, api.Row{Handle: 99, File: 99})
	r := base()
	r.Order, r.Rows = order[:3], rows[:3]
	b.Is("Commit", commits(b, "Commit", r, 0), api.OK)
	if !slices.Equal(order, []int{2, 0, 1, 77, 78}) || rows[3] != (api.Row{Handle: 99, File: 99}) || !same(r, base()) {
		t.Errorf("what was handed in: %v, %v", order, rows)
	}
	clear(order)
	clear(rows)
	for _, call := range []func(bench.Bench) answer{read, recover1} {
		one := call(b)
		two := call(b)
		for _, a := range []answer{one, two} {
			if !a.is(answer{base(), 1, api.OK}) {
				t.Fatalf("%+v", a)
			}
			o, w := a.r.Order[:cap(a.r.Order)], a.r.Rows[:cap(a.r.Rows)]
			for i := range o {
				o[i] = -5
			}
			for i := range w {
				w[i] = api.Row{Handle: -5}
			}
		}
	}
}

// TestNilAndEmpty lists are the same. G4.
func TestNilAndEmpty(t *testing.T) {
	for _, r := range []api.Rows{{Next: 3, NextFile: 4}, {Next: 3, NextFile: 4, Order: []int{}, Rows: []api.Row{}}} {
		b := bed(t, disk(1))
		b.Is(r, commits(b, r, r, 3), api.OK)
		readsAs(b, r, answer{r, 4, api.OK})
	}
}

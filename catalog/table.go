package catalog

import (
	"iter"

	"strata/api"
	"strata/tape"
	"strata/whole"
)

// What the last word of a record says of it.
const (
	ofLevel = 1
	ofRow   = 2
)

// Formed tells whether a table may be.
func Formed(r api.Rows) bool {
	return r.Next >= 1 && r.Next <= api.MaxHandle+1 && isOrder(r.Order, r.Vars) && rise(r)
}

// isOrder tells whether a list has each number below vars just once.
func isOrder(order []int, vars int) bool {
	if vars > api.MaxVars || len(order) != vars {
		return false
	}
	seen := make([]bool, vars)
	for _, v := range order {
		if v < 0 || v >= vars || seen[v] {
			return false
		}
		seen[v] = true
	}
	return true
}

// rise tells whether a table's rows may be: by their handles and files.
func rise(r api.Rows) bool {
	if len(r.Rows) > api.MaxLive {
		return false
	}
	last := 0
	for _, row := range r.Rows {
		if row.Handle <= last || row.Handle >= r.Next || row.File >= r.NextFile {
			return false
		}
		last = row.Handle
	}
	return true
}

// records are those of a table, as the catalog of that generation has them.
func records(r api.Rows, gen uint64) iter.Seq[api.Rec] {
	return func(yield func(api.Rec) bool) {
		for i, v := range r.Order {
			if !yield(api.Rec{uint64(i), uint64(v), 0, ofLevel}) {
				return
			}
		}
		for _, row := range r.Rows {
			if !yield(api.Rec{uint64(row.Handle), row.File, 0, ofRow}) {
				return
			}
		}
		yield(api.Rec{api.Mark, gen, uint64(r.Next), r.NextFile})
	}
}

// write makes the catalog of a generation, sealed, or none.
func write(k *tape.Desk, r api.Rows, gen uint64) api.Errno {
	w, e := k.Write(Name(gen), api.KindTable)
	if e != api.OK {
		return e
	}
	for record := range records(r, gen) {
		if e = w.Put(record); e != api.OK {
			break
		}
	}
	if closed := w.Close(); e == api.OK {
		e = closed
	}
	if e != api.OK {
		whole.Remove(k, Name(gen))
		e = whole.Outcome(k, e)
	}
	return e
}

// tell is the table of which the catalog of a generation tells.
func tell(k *tape.Desk, gen uint64) (api.Rows, api.Errno) {
	var t told
	for record, e := range k.All(Name(gen), api.KindTable) {
		if e != api.OK {
			return api.Rows{}, e
		}
		t.take(record) // to the end also where it is none: a block behind may be spoilt, and that is told first
	}
	r, ok := t.table(gen)
	if !ok || k.Ready(filesOf(r.Rows).sorted(), nil) != api.OK {
		return api.Rows{}, api.ErrRows
	}
	return r, api.OK
}

package sorter

import (
	"slices"
	"strconv"
	"strings"

	"strata/api"
	"strata/tape"
)

// job is a sort or a merge that goes on. The runs that it has made and not yet deleted are temporaries with the numbers from first up to ahead of next: two numbers tell them all, since a list of them would grow with the tape.
type job struct {
	ask
	desk  *tape.Desk // its purse is the share
	whole *tape.Desk // that the job was asked of: none but this one knows which names of temporaries are given away
	base  string     // what the runs' names begin with; "" until there are some
	first int
	next  int
}

// filler puts the records of a tape that is being made.
type filler func(w *tape.Writer) api.Errno

// runBlocks is how many blocks a run may have: the share holds it, a block that is read and one that is written.
func (j *job) runBlocks() int { return j.share/j.desk.K() - 2 }

// fan is how many tapes are merged at one time: the share holds a block of each, and one that is written.
func (j *job) fan() int { return j.share/j.desk.K() - 1 }

func (j *job) sort(in, out string) api.Errno {
	blocks, _, e := j.desk.Disk().Length(in)
	if e != api.OK {
		return e
	}
	if blocks <= j.runBlocks() {
		return j.makeRuns(in, blocks, func(fill filler) api.Errno { return j.write(out, fill) })
	}
	if e := j.makeRuns(in, blocks, j.keep); e != api.OK {
		return e
	}
	return j.mergeRuns(out)
}

// makeRuns cuts a tape of so many blocks into runs, the last one as short as it comes, and hands each to keep. A tape without records is one run.
func (j *job) makeRuns(in string, blocks int, keep func(filler) api.Errno) api.Errno {
	r, e := j.desk.Read(in, j.kind)
	if e != api.OK {
		return e
	}
	defer r.Close()
	size := min(blocks, j.runBlocks()) * j.desk.K()
	if e := j.desk.Purse().Take(size); e != api.OK {
		return e
	}
	defer j.desk.Purse().Give(size)
	list := make([]api.Rec, size)
	for left := blocks; ; left -= j.runBlocks() {
		n, e := readRun(r, list)
		if e != api.OK {
			return e
		}
		e = keep(func(w *tape.Writer) api.Errno { return j.merge(sortPieces(j.order, list[:n]), w) })
		if e != api.OK || left <= j.runBlocks() {
			return e
		}
	}
}

// readRun fills the list as far as the tape goes, and tells how far.
func readRun(r *tape.Reader, list []api.Rec) (int, api.Errno) {
	for n := range list {
		rec, some, e := r.Next()
		if e != api.OK || !some {
			return n, e
		}
		list[n] = rec
	}
	return len(list), api.OK
}

func (j *job) mergeTapes(in []string, out string) api.Errno {
	if len(in) <= j.fan() {
		return j.write(out, j.merging(in))
	}
	for group := range slices.Chunk(in, j.fan()) {
		if e := j.keep(j.merging(group)); e != api.OK {
			return e
		}
	}
	return j.mergeRuns(out)
}

// mergeRuns merges runs until all that are left can be merged into out. It goes pass by pass: no run is merged again ahead of one that has been merged less often. Else a sort would not keep within its Bound.
func (j *job) mergeRuns(out string) api.Errno {
	for last := j.next; j.next-j.first > j.fan(); {
		if j.first == last {
			last = j.next
		}
		n := min(j.fan(), last-j.first)
		if e := j.keep(j.merging(j.names(n))); e != api.OK {
			return e
		}
		if e := j.drop(n); e != api.OK {
			return e
		}
	}
	return j.write(out, j.merging(j.names(j.next-j.first)))
}

// merging puts the records of these tapes, at most as many as fan says.
func (j *job) merging(names []string) filler {
	return func(w *tape.Writer) api.Errno {
		var from []source
		for _, name := range names {
			r, e := j.desk.Read(name, j.kind)
			if e != api.OK {
				return e
			}
			defer r.Close()
			from = append(from, r)
		}
		return j.merge(from, w)
	}
}

// keep makes one run more.
func (j *job) keep(fill filler) api.Errno {
	if j.base == "" {
		j.base = freeBase(j.whole)
	}
	e := j.write(j.name(j.next), fill)
	if e == api.OK {
		j.next++
	}
	return e
}

// freeBase is a beginning that no file's name has.
func freeBase(k *tape.Desk) string {
	files := k.Disk().Names()
	for {
		base := k.Temp() + "-"
		if !slices.ContainsFunc(files, func(name string) bool { return strings.HasPrefix(name, base) }) {
			return base
		}
	}
}

func (j *job) name(run int) string { return j.base + strconv.Itoa(run) }

// names are those of the first n runs.
func (j *job) names(n int) []string {
	var list []string
	for i := range n {
		list = append(list, j.name(j.first+i))
	}
	return list
}

// write makes a tape; if that is refused, it is not there.
func (j *job) write(name string, fill filler) api.Errno {
	w, e := j.desk.Write(name, j.kind)
	if e != api.OK {
		return e
	}
	if e := fill(w); e != api.OK {
		return behind(w.Drop(), e)
	}
	if e := w.Close(); e != api.OK {
		return behind(j.desk.Disk().Delete(name), e)
	}
	return api.OK
}

// drop deletes the first n runs.
func (j *job) drop(n int) api.Errno {
	for range n {
		if e := j.desk.Disk().Delete(j.name(j.first)); e != api.OK {
			return e
		}
		j.first++
	}
	return api.OK
}

// end deletes what is left of the runs and gives the share back; what the job answers, if it came so far.
func (j *job) end(e api.Errno) api.Errno {
	e = behind(j.drop(j.next-j.first), e)
	j.desk.Purse().Close()
	return e
}

// behind is what is told of a job that came to e, when what it then deletes answers as it does: power that goes off there is told in the place of e.
func behind(deleted, e api.Errno) api.Errno {
	if deleted != api.OK {
		return deleted
	}
	return e
}

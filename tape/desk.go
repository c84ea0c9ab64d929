// Package tape reads and writes files of records on a disk, a block at a time: see ../shared/doc/04-tape.md.
package tape

import (
	"iter"
	"strconv"
	"strings"

	"strata/api"
	"strata/disk"
	"strata/purse"
	"strata/recs"
)

// Desk is a disk and a purse to work with.
type Desk struct {
	disk  *disk.Disk
	purse *purse.Purse
	k     int // records of a block
	temps int // the count of the next temporary
}

// NewDesk is a desk.
func NewDesk(d *disk.Disk, p *purse.Purse) (*Desk, api.Errno) {
	if d == nil || p == nil {
		return nil, api.ErrArg
	}
	k := recs.Fit(d.Block())
	if k == 0 {
		return nil, api.ErrArg
	}
	return &Desk{disk: d, purse: p, k: k, temps: 1}, api.OK
}

// Disk is the disk that the desk was made of.
func (k *Desk) Disk() *disk.Disk { return k.disk }

// Purse is the purse that the desk was made of.
func (k *Desk) Purse() *purse.Purse { return k.purse }

// K is how many records a block holds.
func (k *Desk) K() int { return k.k }

// Temp is a name for a temporary that no file has.
func (k *Desk) Temp() string {
	for {
		name := "tmp-" + strconv.Itoa(k.temps)
		k.temps++
		if _, _, e := k.disk.Length(name); e != api.OK {
			return name
		}
	}
}

// Sweep deletes the files whose names begin so.
func (k *Desk) Sweep(prefix string) api.Errno {
	if !k.disk.On() {
		return api.ErrOff
	}
	for _, name := range k.disk.Names() {
		if !strings.HasPrefix(name, prefix) {
			continue
		}
		if e := k.disk.Delete(name); e != api.OK {
			return e
		}
	}
	return api.OK
}

// Ready tells whether a whole operation may begin that reads these files and makes these.
func (k *Desk) Ready(in []string, out []string) api.Errno {
	if !k.disk.On() {
		return api.ErrOff
	}
	seen := make(map[string]struct{}, len(out))
	for _, name := range out {
		if e := k.mayMake(name); e != api.OK {
			return e
		}
		if _, twice := seen[name]; twice {
			return api.ErrExists
		}
		seen[name] = struct{}{}
	}
	for _, name := range in {
		if e := k.mayRead(name); e != api.OK {
			return e
		}
	}
	return api.OK
}

func (k *Desk) mayMake(name string) api.Errno {
	switch _, _, e := k.disk.Length(name); e {
	case api.OK:
		return api.ErrExists
	case api.ErrNoFile:
		return api.OK
	default:
		return e
	}
}

func (k *Desk) mayRead(name string) api.Errno {
	_, sealed, e := k.disk.Length(name)
	if e == api.OK && !sealed {
		return api.ErrOpen
	}
	return e
}

// Last is the last record of a tape; false: it has none.
func (k *Desk) Last(name string, kind int) (api.Rec, bool, api.Errno) {
	r, e := k.Back(name, kind)
	if e != api.OK {
		return api.Rec{}, false, e
	}
	defer r.Close()
	return r.Next()
}

// Size is how many records a tape has.
func (k *Desk) Size(name string, kind int) (int, api.Errno) {
	r, e := k.Back(name, kind)
	if e != api.OK {
		return 0, e
	}
	defer r.Close()
	_, some, e := r.Peek()
	if !some {
		return 0, e
	}
	return (r.blocks-1)*k.k + len(r.list), api.OK
}

// All gives the records of a tape one by one; at a refusal that, and no more.
func (k *Desk) All(name string, kind int) iter.Seq2[api.Rec, api.Errno] {
	return func(yield func(api.Rec, api.Errno) bool) {
		r, e := k.Read(name, kind)
		if e != api.OK {
			yield(api.Rec{}, e)
			return
		}
		defer r.Close() // also where the one who asks stops, or panics
		for {
			rec, some, e := r.Next()
			if !some && e == api.OK {
				return
			}
			if !yield(rec, e) || e != api.OK {
				return
			}
		}
	}
}

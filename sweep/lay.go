package sweep

import (
	"slices"

	"strata/api"
	"strata/tape"
	"strata/whole"
)

// Lay writes arcs as the two tapes.
func Lay(k *tape.Desk, list []api.Arc, info api.Info, out string) api.Errno {
	from, to := slices.Clone(list), slices.Clone(list)
	slices.SortFunc(from, byFrom)
	slices.SortFunc(to, byTo)
	wrong := api.OK
	if !areSound(from, info, headsOf(to)) {
		wrong = api.ErrArcs
	}
	if e := whole.Ready(k, wrong, nil, []string{Inner(out), Outer(out)}); e != api.OK {
		return e
	}
	e := layTape(k, Inner(out), api.KindInner, func(w *tape.Writer) api.Errno { return putInner(w, to) })
	if e == api.OK {
		e = layTape(k, Outer(out), api.KindOuter, func(w *tape.Writer) api.Errno { return putOuter(w, from, info) })
	}
	if e != api.OK {
		whole.Remove(k, Inner(out), Outer(out))
	}
	return whole.Outcome(k, e)
}

// headsOf is how many nodes arcs go to, which are by their To.
func headsOf(list []api.Arc) int {
	heads := 0
	for i, a := range list {
		if !isLeaf(a.To) && (i == 0 || list[i-1].To != a.To) {
			heads++
		}
	}
	return heads
}

// layTape writes a tape. If that is refused, it may be there, not sealed.
func layTape(k *tape.Desk, name string, kind int, put func(w *tape.Writer) api.Errno) api.Errno {
	w, e := k.Write(name, kind)
	if e != api.OK {
		return e
	}
	if e := put(w); e != api.OK {
		w.Drop()
		return e
	}
	return w.Close()
}

// putInner puts the arcs to nodes.
func putInner(w *tape.Writer, list []api.Arc) api.Errno {
	for _, a := range list {
		if isLeaf(a.To) {
			continue
		}
		if e := w.Put(innerRecord(a.From, uint64(a.Side), a.To)); e != api.OK {
			return e
		}
	}
	return api.OK
}

// putOuter puts the arcs to leaves, and the end.
func putOuter(w *tape.Writer, list []api.Arc, info api.Info) api.Errno {
	for _, a := range list {
		if !isLeaf(a.To) {
			continue
		}
		if e := w.Put(outerRecord(a.From, uint64(a.Side), a.To)); e != api.OK {
			return e
		}
	}
	return w.Put(endRecord(info))
}

package sweep

import "strata/api"

const (
	idBits    = 40
	placeBits = 58 // of a number that is packed into a record with others
	placeMask = 1<<placeBits - 1
	highest   = 1 << (placeBits - 1) // of a place
	leafBit   = 1 << 63
)

// asker is who waits for a state: a side of a node; a state that is passed on; nobody, for that of the root.
type asker uint64

const nobody asker = placeMask

func askerOfSide(node api.Ptr, side int) asker { return asker(node)<<1 | asker(side) }

func askerOfPass(self api.Ptr) asker { return highest | asker(self) }

func (a asker) isPass() bool { return a&highest != 0 && a != nobody }

func (a asker) node() api.Ptr { return api.Ptr(a >> 1) }

func (a asker) side() uint64 { return uint64(a & 1) }

// request is one who waits for what becomes of a tuple.
type request struct {
	fate
	from asker
}

// pack is a request as a record. The records' order is that of the stops, then of the states, then of who asks; one word for each would be one word too much.
func (r request) pack() api.Rec {
	rec := api.Rec{3: uint64(r.at)}
	for _, p := range r.state {
		rec = push(rec, place(p))
	}
	return push(rec, uint64(r.from))
}

func unpack(rec api.Rec) request {
	var r request
	rec, from := pull(rec)
	r.from = asker(from)
	for i := len(r.state) - 1; i >= 0; i-- {
		var p uint64
		rec, p = pull(rec)
		r.state[i] = pointer(p)
	}
	r.at = stop(rec[3])
	return r
}

// push moves a record, as one long number, by a place, and puts a number there.
func push(rec api.Rec, number uint64) api.Rec {
	for i := range len(rec) - 1 {
		rec[i] = rec[i]<<placeBits | rec[i+1]>>(64-placeBits)
	}
	rec[3] = rec[3]<<placeBits | number
	return rec
}

// pull takes back what push has put.
func pull(rec api.Rec) (api.Rec, uint64) {
	number := rec[3] & placeMask
	for i := len(rec) - 1; i > 0; i-- {
		rec[i] = rec[i]>>placeBits | rec[i-1]<<(64-placeBits)
	}
	rec[0] >>= placeBits
	return rec, number
}

// place is a pointer, a leaf or a mark as a number that fits into a place; it keeps their order.
func place(p api.Ptr) uint64 {
	if p >= leafBit {
		return uint64(p) - leafBit + highest
	}
	return uint64(p)
}

func pointer(place uint64) api.Ptr {
	if place >= highest {
		return api.Ptr(place - highest + leafBit)
	}
	return api.Ptr(place)
}

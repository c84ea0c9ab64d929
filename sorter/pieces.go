package sorter

import (
	"slices"
	"sync"

	"strata/api"
	"strata/recs"
)

// mostPieces is how many goroutines sort one run. It does not hang on the machine, so that neither does what the disk is asked for.
const mostPieces = 4

// piece is a part of a run; its list is what it has not given yet.
type piece struct {
	list []api.Rec
}

// Next is the next record; false: there is none.
func (p *piece) Next() (api.Rec, bool, api.Errno) {
	if len(p.list) == 0 {
		return api.Rec{}, false, api.OK
	}
	rec := p.list[0]
	p.list = p.list[1:]
	return rec, true, api.OK
}

// sortPieces sorts the list piece by piece, where it stands and all pieces at one time. Each worker has a channel of its own: so the pieces come in their order, whichever is sorted first.
func sortPieces(o api.Order, list []api.Rec) []source {
	var workers sync.WaitGroup
	var told []chan *piece
	for part := range slices.Chunk(list, len(list)/mostPieces+1) {
		c := make(chan *piece)
		told = append(told, c)
		workers.Go(func() { sortPiece(o, part, c) })
	}
	var all []source
	for _, c := range told {
		for p := range c {
			all = append(all, p)
		}
	}
	workers.Wait()
	return all
}

// sortPiece hands the piece over when it is sorted, and not ahead of that.
func sortPiece(o api.Order, list []api.Rec, told chan<- *piece) {
	slices.SortFunc(list, func(a, b api.Rec) int { return recs.Compare(o, a, b) })
	told <- &piece{list}
	close(told)
}

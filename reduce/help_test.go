package reduce_test

import (
	"testing"

	"strata/api"
	"strata/bench"
	"strata/reduce"
)

// The leaves, as the chapter writes them.
const (
	F = api.False
	T = api.True
)

// truth is a leaf of a truth.
func truth(v int) uint64 { return uint64(F) + uint64(v) }

// levelOf is the level of a node; of a leaf one that is deeper than all.
func levelOf(p uint64) int {
	if p >= uint64(F) {
		return 1 << 20
	}
	return int(p >> 40)
}

// dice are those of all tests, with what is thrown for these alone.
type dice struct{ bench.Dice }

// strip is a tape that lies on a disk.
func strip(name string, kind int, list []api.Rec) bench.Strip {
	return bench.Strip{Name: name, Kind: kind, List: list}
}

// arcs are the two tapes of the name a.
func arcs(inner, outer []api.Rec) []bench.Strip { return bench.Arcs("a", inner, outer) }

// stand is a bench for reductions.
type stand struct{ bench.Bench }

// mount is one with so many records free.
func mount(t *testing.T, was api.State, free int, troubles ...api.Trouble) stand {
	t.Helper()
	return stand{bench.Mount(t, was, free, troubles...)}
}

// lie is one on which the two tapes of a lie, with what a whole operation needs.
func lie(t *testing.T, k int, g graph) stand {
	t.Helper()
	return stand{bench.Lie(t, k, arcs(g.tapes())...)}
}

// made fails the test unless all is as it was but that out is there, sealed, and is the tape of these records.
func (b stand) made(what any, out string, list []api.Rec) {
	b.Helper()
	b.Made(what, strip(out, api.KindNodes, list))
}

// run reduces the tapes of a and looks at the file, record by record.
func (b stand) run(what any, want []api.Rec) {
	b.Helper()
	b.Is(what, reduce.Reduce(b.Desk, "a", "out"), api.OK)
	b.made(what, "out", want)
}

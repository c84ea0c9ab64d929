package sweep_test

import (
	"testing"

	"strata/api"
	"strata/bench"
)

// The leaves, as the chapter writes them.
const (
	F = api.False
	T = api.True
)

// dice are those of all tests, with what is thrown for these alone.
type dice struct{ bench.Dice }

// strip is a tape that lies on a disk.
func strip(name string, kind int, list []api.Rec) bench.Strip {
	return bench.Strip{Name: name, Kind: kind, List: list}
}

// arcs are the two tapes of the name a.
func arcs(inner, outer []api.Rec) []bench.Strip { return bench.Arcs("a", inner, outer) }

// stand is a bench for sweeps.
type stand struct{ bench.Bench }

// mount is one with so many records free.
func mount(t *testing.T, was api.State, free int, troubles ...api.Trouble) stand {
	t.Helper()
	return stand{bench.Mount(t, was, free, troubles...)}
}

// lie is one on which these node files lie, f, g and so on, with what a whole operation needs.
func lie(t *testing.T, k int, lists ...[]api.Rec) stand {
	t.Helper()
	return stand{bench.Lie(t, k, bench.Files(lists...)...)}
}

// made fails the test unless all is as it was but that the two tapes of out are there, sealed, and hold these records.
func (b stand) made(what any, out string, inner, outer []api.Rec) {
	b.Helper()
	b.Made(what, bench.Arcs(out, inner, outer)...)
}

// clear deletes the two tapes of out.
func (b stand) clear(out string) {
	b.Disk().Delete(out + ".i")
	b.Disk().Delete(out + ".o")
}

package bench

import (
	"bytes"
	"slices"
	"strconv"

	"strata/api"
)

// Maker makes files of files on a bench.
type Maker struct {
	Bench
	made *int
}

// NewMaker is one that has made none.
func NewMaker(b Bench) Maker { return Maker{b, new(int)} }

// Make makes a file by a call, under a name of its own, and tells that name.
func (m Maker) Make(call func(out string) api.Errno) string {
	m.Helper()
	*m.made++
	out := "o" + strconv.Itoa(*m.made)
	m.Is(out, call(out), api.OK)
	return out
}

// blocks are those of a file that is sealed.
func (m Maker) blocks(name string) [][]byte {
	for _, f := range m.Disk().State().Files {
		if f.Name == name && f.Sealed {
			return f.Blocks
		}
	}
	return nil
}

// Same fails the test unless two files are the same, block by block.
func (m Maker) Same(what any, f, g string) {
	m.Helper()
	a, b := m.blocks(f), m.blocks(g)
	if len(a) == 0 || !slices.EqualFunc(a, b, bytes.Equal) {
		m.Fatalf("%v: %s and %s are not the same file", what, f, g)
	}
}

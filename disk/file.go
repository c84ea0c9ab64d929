package disk

import (
	"strings"

	"strata/api"
)

// phase is how far a file has come: blocks are put while it is open, and read when it is sealed.
type phase int

const (
	open phase = iota
	sealed
)

type file struct {
	phase  phase
	blocks [][]byte
}

// fileOf is a file of a state, in memory of its own.
func fileOf(f api.File) *file {
	p := open
	if f.Sealed {
		p = sealed
	}
	return &file{phase: p, blocks: copyBlocks(f.Blocks)}
}

// told is the file as a state tells it, in memory of its own.
func (f *file) told(name string) api.File {
	return api.File{Name: name, Sealed: f.phase == sealed, Blocks: copyBlocks(f.blocks)}
}

// has tells whether the file has a block i.
func (f *file) has(i int) bool { return i >= 0 && i < len(f.blocks) }

// copyBlocks gives each block memory of its own: no two lists may share any.
func copyBlocks(blocks [][]byte) [][]byte {
	var all [][]byte
	for _, b := range blocks {
		all = append(all, copyBlock(b, len(b)))
	}
	return all
}

// copyBlock is a block whose first bytes are those of b, and whose others are 0.
func copyBlock(b []byte, bytes int) []byte {
	c := make([]byte, len(b))
	copy(c, b[:min(bytes, len(b))])
	return c
}

// isName tells whether a file may have that name.
func isName(name string) bool {
	if len(name) < 1 || len(name) > api.MaxName {
		return false
	}
	for i := range len(name) {
		if !isNameByte(name[i]) {
			return false
		}
	}
	return true
}

func isNameByte(c byte) bool {
	return 'a' <= c && c <= 'z' || '0' <= c && c <= '9' || c == '-' || c == '.'
}

// ownName is the name in memory of its own: one that was cut out of a long text would keep all of it.
func ownName(name string) string { return strings.Clone(name) }

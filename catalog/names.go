package catalog

import (
	"maps"
	"slices"
	"strconv"
	"strings"

	"strata/api"
	"strata/tape"
)

// How the names of diagrams' files and of catalogs begin.
const (
	filePrefix    = "dd-"
	catalogPrefix = "cat-"
)

// digits is how long a number in a name is.
const digits = 16

// FileName is the name of a diagram's file.
func FileName(n uint64) string { return filePrefix + padded(n) }

// Name is the name of a generation of the catalog.
func Name(gen uint64) string { return catalogPrefix + padded(gen) }

func padded(n uint64) string {
	text := strconv.FormatUint(n, 16)
	return strings.Repeat("0", digits-len(text)) + text
}

// generation is that of which a name is the catalog's; 0 of any other name.
func generation(name string) uint64 {
	gen, err := strconv.ParseUint(strings.TrimPrefix(name, catalogPrefix), 16, 64)
	if err != nil || Name(gen) != name {
		return 0
	}
	return gen
}

// newest is the greatest generation of which a sealed catalog is there; 0: of none.
func newest(k *tape.Desk) uint64 {
	most := uint64(0)
	for _, name := range k.Disk().Names() {
		gen := generation(name)
		if _, sealed, e := k.Disk().Length(name); gen > most && e == api.OK && sealed {
			most = gen
		}
	}
	return most
}

// overtaken tells whether a catalog of a greater generation is there, sealed or not.
func overtaken(k *tape.Desk, gen uint64) bool {
	for _, name := range k.Disk().Names() {
		if generation(name) > gen {
			return true
		}
	}
	return false
}

// names are names of files, each once.
type names map[string]struct{}

func (n names) add(name string) { n[name] = struct{}{} }

func (n names) sorted() []string { return slices.Sorted(maps.Keys(n)) }

// filesOf are the files of which rows tell.
func filesOf(rows []api.Row) names {
	files := names{}
	for _, row := range rows {
		files.add(FileName(row.File))
	}
	return files
}

// tidy deletes all files but those that are kept. Nobody asks for the names behind it.
func tidy(k *tape.Desk, kept names) api.Errno {
	for _, name := range k.Disk().Names() {
		if _, stays := kept[name]; stays {
			continue
		}
		if e := k.Disk().Delete(name); e != api.OK {
			return e
		}
	}
	clear(kept)
	return api.OK
}

package nodes

import (
	"strata/api"
	"strata/recs"
	"strata/tape"
)

// file is a node file as its last block tells of it.
type file struct {
	api.Info
	desk  *tape.Desk
	name  string
	whole bool // it has as many records as its end tells
}

// Look is what ends a node file.
func Look(k *tape.Desk, name string) (api.Info, api.Errno) {
	f, e := look(k, name)
	return f.Info, e
}

// look reads the last block, whose records are out of the purse meanwhile. The tape's own calls would have to read it twice to tell both its last record and how many it has.
func look(k *tape.Desk, name string) (file, api.Errno) {
	if k == nil {
		return file{}, api.ErrArg
	}
	if e := k.Ready([]string{name}, nil); e != api.OK {
		return file{}, e
	}
	if k.Purse().Take(k.K()) != api.OK { // of a closed part nothing is free, so that is told alike
		return file{}, api.ErrBudget
	}
	defer k.Purse().Give(k.K())
	list, ahead, e := lastBlock(k, name)
	if e != api.OK {
		return file{}, e
	}
	info, ok := infoOf(list[len(list)-1])
	if !ok {
		return file{}, api.ErrShape
	}
	return file{Info: info, desk: k, name: name, whole: info.Nodes == ahead*k.K()+len(list)-1}, api.OK
}

// lastBlock is the records of the last block, and how many blocks are ahead of it.
func lastBlock(k *tape.Desk, name string) ([]api.Rec, int, api.Errno) {
	blocks, _, e := k.Disk().Length(name)
	if e != api.OK {
		return nil, 0, e
	}
	if blocks == 0 {
		return nil, 0, api.ErrShape
	}
	block, e := k.Disk().Read(name, blocks-1)
	if e != api.OK {
		return nil, 0, e
	}
	list, e := recs.Decode(api.KindNodes, blocks-1, block)
	return list, blocks - 1, e
}

// begin asks what each whole operation asks first, and looks at the files that it reads.
func begin(k *tape.Desk, names ...string) ([]file, api.Errno) {
	if k == nil {
		return nil, api.ErrArg
	}
	if e := k.Ready(names, nil); e != api.OK {
		return nil, e
	}
	if k.Purse().Free() < api.LeastK*k.K() {
		return nil, api.ErrBudget
	}
	var files []file
	for _, name := range names {
		f, e := look(k, name)
		if e != api.OK {
			return nil, e
		}
		files = append(files, f)
	}
	for _, f := range files {
		if f.Vars != files[0].Vars {
			return nil, api.ErrVars
		}
	}
	return files, api.OK
}

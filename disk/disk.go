// Package disk: the block disk: see ../shared/doc/01-disk.md.
package disk

import (
	"errors"
	"maps"
	"slices"

	"strata/api"
)

// Disk is a disk whose power is on, or has gone off.
type Disk struct {
	block    int
	blocks   int
	on       bool
	files    map[string]*file
	troubles map[int]api.Trouble // those that are still to come
	counts   api.Counts
}

// New is an empty disk.
func New(s api.Setup) (*Disk, api.Errno) {
	if err := checkSetup(s); err != nil {
		return nil, tell(err)
	}
	return empty(s), api.OK
}

// Mount is a disk that holds what another one held, its power on again.
func Mount(st api.State, s api.Setup) (*Disk, api.Errno) {
	if err := checkMount(st, s); err != nil {
		return nil, tell(err)
	}
	d := empty(s)
	for _, f := range st.Files {
		d.files[ownName(f.Name)] = fileOf(f)
		d.use(len(f.Blocks))
	}
	return d, api.OK
}

func empty(s api.Setup) *Disk {
	return &Disk{
		block:    s.Block,
		blocks:   s.Blocks,
		on:       true,
		files:    make(map[string]*file),
		troubles: byCall(s.Troubles),
	}
}

func checkSetup(s api.Setup) error {
	if s.Block < api.MinBlock || s.Block > api.MaxBlock || s.Block%32 != 0 {
		return errArg
	}
	if s.Blocks < 0 || s.Blocks > api.MaxBlocks {
		return errArg
	}
	return nil
}

func checkMount(st api.State, s api.Setup) error {
	if err := checkSetup(s); err != nil {
		return err
	}
	if st.Block != s.Block {
		return errState
	}
	last, used := "", 0
	for _, f := range st.Files {
		if err := checkFile(f, last, s.Block); err != nil {
			return err
		}
		last = f.Name
		used += len(f.Blocks)
	}
	// Only behind all files: a wrong state is told ahead of one that is too large.
	if used > s.Blocks {
		return errFull
	}
	return nil
}

// checkFile looks at a file of a state that stands behind the name last.
func checkFile(f api.File, last string, block int) error {
	if !isName(f.Name) || f.Name <= last {
		return errState
	}
	for _, b := range f.Blocks {
		if len(b) != block {
			return errState
		}
	}
	return nil
}

// Create makes an empty file.
func (d *Disk) Create(name string) api.Errno { return d.answer(d.create(name)) }

func (d *Disk) create(name string) error {
	_, err := d.find(name)
	if err == nil {
		return errExists
	}
	if !errors.Is(err, errNoFile) {
		return err
	}
	return d.carry(d.number(), func(int) { d.files[ownName(name)] = &file{phase: open} })
}

// Append puts a block behind the last one of a file that is not sealed.
func (d *Disk) Append(name string, block []byte) api.Errno {
	err := d.put(name, block)
	if err == nil {
		d.counts.Appends++
	}
	return d.answer(err)
}

func (d *Disk) put(name string, block []byte) error {
	f, err := d.find(name)
	if err != nil {
		return err
	}
	if f.phase == sealed {
		return errSealed
	}
	if len(block) != d.block {
		return errBlock
	}
	if d.counts.Used >= d.blocks {
		return errFull
	}
	return d.carry(d.number(), func(bytes int) {
		f.blocks = append(f.blocks, copyBlock(block, bytes))
		d.use(1)
	})
}

// Seal closes a file for appends and opens it for reads.
func (d *Disk) Seal(name string) api.Errno { return d.answer(d.seal(name)) }

func (d *Disk) seal(name string) error {
	f, err := d.find(name)
	if err != nil {
		return err
	}
	if f.phase == sealed {
		return errSealed
	}
	return d.carry(d.number(), func(int) { f.phase = sealed })
}

// Read is a block of a sealed file.
func (d *Disk) Read(name string, i int) ([]byte, api.Errno) {
	b, err := d.fetch(name, i)
	if err == nil {
		d.counts.Reads++
	}
	return b, d.answer(err)
}

func (d *Disk) fetch(name string, i int) ([]byte, error) {
	f, err := d.find(name)
	if err != nil {
		return nil, err
	}
	if f.phase != sealed {
		return nil, errOpen
	}
	if !f.has(i) {
		return nil, errBlock
	}
	if err := d.carry(d.number(), func(int) {}); err != nil {
		return nil, err
	}
	return copyBlock(f.blocks[i], d.block), nil
}

// Delete takes a file away.
func (d *Disk) Delete(name string) api.Errno { return d.answer(d.drop(name)) }

func (d *Disk) drop(name string) error {
	f, err := d.find(name)
	if err != nil {
		return err
	}
	t := d.number()
	if t.Kind == api.TrFault {
		// Who clears up behind a fault must not meet another one: no fault befalls a Delete.
		t = api.Trouble{}
	}
	return d.carry(t, func(int) {
		delete(d.files, name)
		d.use(-len(f.blocks))
	})
}

// Length is how many blocks a file has, and whether it is sealed.
func (d *Disk) Length(name string) (int, bool, api.Errno) {
	f, err := d.find(name)
	if err != nil {
		return 0, false, tell(err)
	}
	return len(f.blocks), f.phase == sealed, api.OK
}

// Names are the files' names, rising.
func (d *Disk) Names() []string {
	if !d.on {
		return nil
	}
	return d.rising()
}

// Block is the bytes of a block.
func (d *Disk) Block() int { return d.block }

// Blocks is how many blocks the disk has.
func (d *Disk) Blocks() int { return d.blocks }

// Counts is what has been counted since New or Mount.
func (d *Disk) Counts() api.Counts { return d.counts }

// On tells whether the power is on.
func (d *Disk) On() bool { return d.on }

// State is what the disk holds now, the power on or off.
func (d *Disk) State() api.State {
	st := api.State{Block: d.block}
	for _, name := range d.rising() {
		st.Files = append(st.Files, d.files[name].told(name))
	}
	return st
}

// Spoil turns a bit of a block: the world does that, no program.
func (d *Disk) Spoil(name string, i int, bit int) api.Errno { return tell(d.spoil(name, i, bit)) }

func (d *Disk) spoil(name string, i int, bit int) error {
	f, err := d.look(name)
	if err != nil {
		return err
	}
	if !f.has(i) || bit < 0 || bit >= 8*d.block {
		return errBlock
	}
	f.blocks[i][bit/8] ^= 1 << (bit % 8)
	return nil
}

// find is the file of a name, for one who needs the power.
func (d *Disk) find(name string) (*file, error) {
	if !d.on {
		return nil, errOff
	}
	return d.look(name)
}

// look is the file of a name, the power on or off.
func (d *Disk) look(name string) (*file, error) {
	if !isName(name) {
		return nil, errName
	}
	f, there := d.files[name]
	if !there {
		return nil, errNoFile
	}
	return f, nil
}

func (d *Disk) rising() []string { return slices.Sorted(maps.Keys(d.files)) }

// use counts blocks that are taken, or (below 0) set free.
func (d *Disk) use(n int) {
	d.counts.Used += n
	d.counts.Most = max(d.counts.Most, d.counts.Used)
}

// answer tells what is wrong with a call that may be numbered, and counts it.
func (d *Disk) answer(err error) api.Errno {
	switch {
	case errors.Is(err, errFault):
		d.counts.Faults++
	case errors.Is(err, errFull):
		d.counts.Full++
	}
	return tell(err)
}

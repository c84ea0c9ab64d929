package console

import (
	"strconv"
	"strings"

	"strata/api"
	"strata/disk"
	"strata/engine"
	"strata/reach"
)

// obey does what a line asks for, whose time it is.
func (c *Console) obey(l line) (string, api.Errno) {
	switch l.part {
	case equips:
		return "", c.equip(l)
	case makes:
		return as(strconv.Itoa)(c.make(l))
	case changes:
		return "", c.change(l)
	case tells:
		return c.tell(l.word), api.OK
	}
	return c.ask(l)
}

// equip does what concerns the store, the disk, and the engine as a whole.
func (c *Console) equip(l line) api.Errno {
	n := l.nums
	switch l.word {
	case "disk":
		return c.buy(api.Setup{Block: n[0], Blocks: n[1]})
	case "fault":
		c.await(api.Trouble{At: n[0], Kind: api.TrFault})
	case "cut":
		c.await(api.Trouble{At: n[0], Kind: api.TrCut, Bytes: n[1]})
	case "power":
		return c.mount()
	case "open":
		return c.open(api.Options{Vars: n[0], Budget: n[1], Ids: n[2]})
	case "spoil":
		return c.disk.Spoil(l.text, n[0], n[1])
	}
	return api.OK
}

// buy takes a store, if there are disks of that kind.
func (c *Console) buy(s api.Setup) api.Errno {
	if _, e := disk.New(s); e != api.OK {
		return e
	}
	c.store = s
	return api.OK
}

// await puts a trouble behind those that wait.
func (c *Console) await(t api.Trouble) { c.store.Troubles = append(c.store.Troubles, t) }

// mount takes a disk that holds what the last one held, with the troubles that wait.
func (c *Console) mount() api.Errno {
	d, e := disk.Mount(c.State(), c.store)
	if e != api.OK {
		return e
	}
	c.disk, c.engine, c.store.Troubles = d, nil, nil
	return api.OK
}

func (c *Console) open(o api.Options) api.Errno {
	x, e := engine.Open(c.disk, o)
	if e != api.OK {
		return e
	}
	c.engine = x
	return api.OK
}

// make is the handle that a line makes.
func (c *Console) make(l line) (int, api.Errno) {
	x, n := c.engine, l.nums
	switch l.word {
	case "const":
		return x.Const(n[0] == 1)
	case "var":
		return x.Var(n[0])
	case "cube":
		return x.Cube(l.lits)
	case "formula":
		return coded(x.Formula(l.text))
	case "cnf":
		return coded(x.Cnf(inLines(l.text)))
	case "load":
		return coded(x.Load(strings.ReplaceAll(inLines(l.text), "~", blank)))
	case "not":
		return x.Not(n[0])
	case "apply":
		return x.Apply(n[0], n[1], n[2])
	case "ite":
		return x.Ite(n[0], n[1], n[2])
	case "restrict":
		return x.Restrict(n[0], l.lits)
	case "exists":
		return x.Exists(n[0], n[1:])
	case "forall":
		return x.Forall(n[0], n[1:])
	case "compose":
		return x.Compose(n[0], n[1], n[2])
	case "rename":
		return x.Rename(n[0], n[1:])
	case "copy":
		return x.Copy(n[0])
	}
	return c.search(l)
}

// search is the handle of the set that a line searches for.
func (c *Console) search(l line) (int, api.Errno) {
	x, n := c.engine, l.nums
	switch l.word {
	case "post":
		return reach.Post(x, n[0], n[1])
	case "pre":
		return reach.Pre(x, n[0], n[1])
	case "until":
		return reach.Until(x, n[0], n[1], n[2])
	case "always":
		return reach.Always(x, n[0], n[1])
	}
	return coded(reach.Holds(x, n[0], l.names, n[1:], l.text))
}

// coded is what a call that tells a fault's place has answered, without that.
func coded(handle int, f api.Fault) (int, api.Errno) { return handle, f.Code }

// change does what concerns handles and the order, and makes none.
func (c *Console) change(l line) api.Errno {
	switch l.word {
	case "free":
		return c.engine.Free(l.nums[0])
	case "swap":
		return c.engine.Swap(l.nums[0])
	case "order":
		return c.engine.Reorder(l.nums)
	}
	return c.engine.Sift()
}

// tell is what is asked for by one word.
func (c *Console) tell(word string) string {
	switch word {
	case "counts":
		return counted(c.disk.Counts())
	case "files":
		return c.files()
	case "levels":
		return numbers(c.engine.Order())
	case "handles":
		return numbers(c.engine.Handles())
	}
	return strconv.Itoa(c.engine.Peak())
}

// files are those of the disk, with their lengths.
func (c *Console) files() string {
	var list []string
	for _, name := range c.disk.Names() {
		blocks, _, _ := c.disk.Length(name)
		list = append(list, name+blank+strconv.Itoa(blocks))
	}
	return joined(list, ", ")
}

// ask is what is asked for of handles.
func (c *Console) ask(l line) (string, api.Errno) {
	x, n := c.engine, l.nums
	switch l.word {
	case "count":
		return as(decimal)(x.Count(n[0]))
	case "nodes":
		return as(strconv.Itoa)(x.Nodes(n[0]))
	case "support":
		return as(numbers)(x.Support(n[0]))
	case "equal":
		return as(yesOrNo)(x.Equal(n[0], n[1]))
	case "file":
		return x.File(n[0])
	case "density":
		return as(fraction)(x.Density(n[0]))
	case "first":
		return as(bits)(x.First(n[0]))
	case "eval":
		return as(bit)(x.Eval(n[0], l.bits))
	case "dump":
		return as(onOneLine)(x.Dump(n[0]))
	case "trace":
		return as(states)(reach.Trace(x, n[0], n[1], n[2]))
	}
	handle, steps, e := reach.Reach(x, n[0], n[1])
	return as(numbers)([]int{handle, steps}, e)
}

package disk

import "strata/api"

// byCall is the trouble of each call that one befalls, by the call's number: the first in the list.
func byCall(list []api.Trouble) map[int]api.Trouble {
	first := make(map[int]api.Trouble)
	for _, t := range list {
		if t.Kind != api.TrFault && t.Kind != api.TrCut {
			continue
		}
		if _, taken := first[t.At]; !taken {
			first[t.At] = t
		}
	}
	return first
}

// number gives a call the next number; what befalls it there (the zero Trouble: nothing).
func (d *Disk) number() api.Trouble {
	at := d.counts.Calls
	d.counts.Calls++
	t := d.troubles[at]
	delete(d.troubles, at)
	return t
}

// carry does a call that has been numbered, under its trouble. What is handed to do is how many bytes of a block are still put: above the block's length, if a cut says so.
func (d *Disk) carry(t api.Trouble, do func(bytes int)) error {
	switch t.Kind {
	case api.TrFault:
		return errFault
	case api.TrCut:
		d.on = false
		if t.Bytes > 0 {
			do(t.Bytes)
		}
		return errOff
	}
	do(d.block)
	return nil
}

package reduce

import (
	"strata/api"
	"strata/recs"
)

// What waits in the queues goes from the deepest level up, and within a level from the last node on, as the tapes are read: so the keys are turned round.

// newsKey is that of what the child of a node at a side has become.
func newsKey(from api.Ptr, side uint64) uint64 { return ^(uint64(from)<<1 | side) }

// parentOf is the node that tidings are for.
func parentOf(tidings api.Rec) api.Ptr { return api.Ptr(^tidings[0] >> 1) }

// fateRecord tells what a node has become.
func fateRecord(self, now api.Ptr) api.Rec { return api.Rec{^uint64(self), uint64(now)} }

// selfOf is the node whose fate a record tells.
func selfOf(fate api.Rec) api.Ptr { return api.Ptr(^fate[0]) }

// rowRecord is a node of a level, by what it leads to.
func rowRecord(level int, self api.Ptr, to branch) api.Rec {
	return api.Rec{^uint64(level), uint64(to.low), uint64(to.high), uint64(self)}
}

func idOf(p api.Ptr) int {
	_, id, _, _, _ := recs.Split(p)
	return id
}

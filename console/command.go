package console

// moment is when a line may be obeyed.
type moment int

const (
	noStore  moment = iota // until a store is bought
	aStore                 // from then on
	aDisk                  // from the first mount on
	noEngine               // while a disk is mounted and no engine is opened on it
	anEngine               // while one is
)

// part is which part of a console obeys a line.
type part int

const (
	equips  part = iota // store, disk, engine, and what befalls them; answers nothing
	makes               // of the engine: a handle
	changes             // of the engine; answers nothing
	tells               // of disk and engine, from memory
	asks                // of handles, what is no handle alone
)

// command is what the first word of a line tells of it.
//
// Kinds are NUM, INT, BIT, LIT and BITS, an operator's name (OP), a name with a handle (SET), any word (WORD), the colon itself, and the rest of the line: of plain bytes (REST), or of any (TEXT). Of a kind that two dots end there may be any number.
type command struct {
	word string
	when moment
	part part
	form string // the kinds of what follows
}

// commands are those that there are. The start of the program fills them in.
var commands = []command{}

func init() {
	commands = []command{
		{"disk", noStore, equips, "NUM NUM"},
		{"fault", aStore, equips, "NUM"},
		{"cut", aStore, equips, "NUM INT"},
		{"power", aStore, equips, ""},
		{"open", noEngine, equips, "NUM NUM NUM"},
		{"counts", aDisk, tells, ""},
		{"files", aDisk, tells, ""},
		{"spoil", aDisk, equips, "WORD NUM NUM"},
		{"const", anEngine, makes, "BIT"},
		{"var", anEngine, makes, "NUM"},
		{"cube", anEngine, makes, "LIT.."},
		{"formula", anEngine, makes, "TEXT"},
		{"cnf", anEngine, makes, "REST"},
		{"load", anEngine, makes, "REST"},
		{"not", anEngine, makes, "NUM"},
		{"apply", anEngine, makes, "OP NUM NUM"},
		{"ite", anEngine, makes, "NUM NUM NUM"},
		{"restrict", anEngine, makes, "NUM LIT.."},
		{"exists", anEngine, makes, "NUM NUM.."},
		{"forall", anEngine, makes, "NUM NUM.."},
		{"compose", anEngine, makes, "NUM NUM NUM"},
		{"rename", anEngine, makes, "NUM NUM.."},
		{"copy", anEngine, makes, "NUM"},
		{"free", anEngine, changes, "NUM"},
		{"swap", anEngine, changes, "NUM"},
		{"order", anEngine, changes, "NUM.."},
		{"sift", anEngine, changes, ""},
		{"levels", anEngine, tells, ""},
		{"handles", anEngine, tells, ""},
		{"count", anEngine, asks, "NUM"},
		{"nodes", anEngine, asks, "NUM"},
		{"support", anEngine, asks, "NUM"},
		{"equal", anEngine, asks, "NUM NUM"},
		{"file", anEngine, asks, "NUM"},
		{"density", anEngine, asks, "NUM"},
		{"first", anEngine, asks, "NUM"},
		{"eval", anEngine, asks, "NUM BITS"},
		{"dump", anEngine, asks, "NUM"},
		{"peak", anEngine, tells, ""},
		{"post", anEngine, makes, "NUM NUM"},
		{"pre", anEngine, makes, "NUM NUM"},
		{"reach", anEngine, asks, "NUM NUM"},
		{"until", anEngine, makes, "NUM NUM NUM"},
		{"always", anEngine, makes, "NUM NUM"},
		{"trace", anEngine, asks, "NUM NUM NUM"},
		{"holds", anEngine, makes, "NUM SET.. : TEXT"},
	}
}

// find is the command of a word; false, if there is none.
func find(word string) (command, bool) {
	for _, c := range commands {
		if c.word == word {
			return c, true
		}
	}
	return command{}, false
}

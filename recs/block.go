package recs

import "strata/api"

// Where the parts of a block stand. The records begin behind the head; the sum is at the block's end.
const (
	magic     = "STRA"
	version   = 1
	versionAt = 4
	kindAt    = 5
	countAt   = 6
	placeAt   = 8
	zerosAt   = 16
	headBytes = 28
	sumBytes  = 4
	wordBytes = 8
	recBytes  = 32
	maxKind   = 255
)

// Fit is how many records a block of so many bytes holds; 0 if there are no such blocks.
func Fit(block int) int {
	if block < api.MinBlock || block > api.MaxBlock || block%recBytes != 0 {
		return 0
	}
	return block/recBytes - 1 // head and sum together are as long as one record
}

// Encode writes records as a block.
func Encode(kind int, place int, list []api.Rec, block int) ([]byte, api.Errno) {
	switch {
	case !mayAsk(kind, place, block) || len(list) == 0:
		return nil, api.ErrArg
	case len(list) > Fit(block):
		return nil, api.ErrMany
	}
	b := make([]byte, block)
	putHead(b, kind, place, len(list))
	at := headBytes
	for _, r := range list {
		for _, w := range r {
			putWord(b[at:at+wordBytes], w)
			at += wordBytes
		}
	}
	put(sumOf(b), uint64(Sum(summed(b))))
	return b, api.OK
}

// Decode reads a block.
func Decode(kind int, place int, b []byte) ([]api.Rec, api.Errno) {
	switch {
	case !mayAsk(kind, place, len(b)):
		return nil, api.ErrArg
	case get(sumOf(b)) != uint64(Sum(summed(b))):
		return nil, api.ErrSpoilt
	case !wellFormed(b):
		return nil, api.ErrForm
	case int(b[kindAt]) != kind || placeOf(b) != uint64(place):
		return nil, api.ErrKind
	}
	list := make([]api.Rec, countOf(b))
	at := headBytes
	for i := range list {
		for j := range list[i] {
			list[i][j] = word(b[at : at+wordBytes])
			at += wordBytes
		}
	}
	return list, api.OK
}

// mayAsk tells whether there may be a block of that kind, place and length.
func mayAsk(kind, place, block int) bool {
	return kind >= 1 && kind <= maxKind && place >= 0 && Fit(block) > 0
}

func putHead(b []byte, kind, place, count int) {
	copy(b, magic)
	b[versionAt] = version
	b[kindAt] = byte(kind)
	put(b[countAt:placeAt], uint64(count))
	put(b[placeAt:zerosAt], uint64(place))
}

// wellFormed tells whether bytes whose length and sum fit are a block of some kind and place.
func wellFormed(b []byte) bool {
	if string(b[:len(magic)]) != magic || b[versionAt] != version || b[kindAt] == 0 {
		return false
	}
	count := countOf(b)
	if count == 0 || count > Fit(len(b)) {
		return false
	}
	return allZero(b[zerosAt:headBytes]) && allZero(summed(b)[headBytes+count*recBytes:])
}

func countOf(b []byte) int { return int(get(b[countAt:placeAt])) }

func placeOf(b []byte) uint64 { return get(b[placeAt:zerosAt]) }

// summed is what the sum of a block is of.
func summed(b []byte) []byte { return b[:len(b)-sumBytes] }

func sumOf(b []byte) []byte { return b[len(b)-sumBytes:] }

func allZero(b []byte) bool {
	for _, x := range b {
		if x != 0 {
			return false
		}
	}
	return true
}

// put fills the bytes with a number, its low byte first.
func put(b []byte, n uint64) {
	for i := range b {
		b[i] = byte(n >> (8 * i))
	}
}

// get is the number of at most eight bytes, the low byte first.
func get(b []byte) uint64 {
	n := uint64(0)
	for i, x := range b {
		n |= uint64(x) << (8 * i)
	}
	return n
}

// putWord is put for eight bytes. Every record goes through it and through word; written out, each is one move of the machine.
func putWord(b []byte, n uint64) {
	b[0], b[1], b[2], b[3] = byte(n), byte(n>>8), byte(n>>16), byte(n>>24)
	b[4], b[5], b[6], b[7] = byte(n>>32), byte(n>>40), byte(n>>48), byte(n>>56)
}

// word is get for eight bytes.
func word(b []byte) uint64 {
	return uint64(b[0]) | uint64(b[1])<<8 | uint64(b[2])<<16 | uint64(b[3])<<24 |
		uint64(b[4])<<32 | uint64(b[5])<<40 | uint64(b[6])<<48 | uint64(b[7])<<56
}

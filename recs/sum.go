package recs

import "sync"

// polynomial is 0x04C11DB7 with its bits turned round, since the bits of each byte go from the lowest on.
const polynomial = 0xEDB88320

// sums holds, for each byte, what it adds to a sum; it is filled at the first use.
var sums = struct {
	once  sync.Once
	table [256]uint32
}{}

// Sum is the CRC-32 of bytes.
func Sum(b []byte) uint32 {
	sums.once.Do(fillSums)
	sum := ^uint32(0)
	for _, x := range b {
		sum = sums.table[byte(sum)^x] ^ sum>>8
	}
	return ^sum
}

func fillSums() {
	for i := range sums.table {
		sum := uint32(i)
		for range 8 {
			sum = sum>>1 ^ polynomial*(sum&1)
		}
		sums.table[i] = sum
	}
}

package recs

import "sync"

// polynomial is 0x04C11DB7 with its bits turned round, since the bits of each byte go from the lowest on.
const polynomial = 0xEDB88320

// sumTable holds, for each byte, what it adds to a sum.
type sumTable [256]uint32

// Sum is the CRC-32 of bytes.
func Sum(b []byte) uint32 {
	// The table is the call's own, since nothing at package level may be filled; no bytes, no table.
	var once sync.Once
	var table sumTable
	sum := ^uint32(0)
	for _, x := range b {
		once.Do(func() { table.fill() })
		sum = table[byte(sum)^x] ^ sum>>8
	}
	return ^sum
}

// fill takes the bits of a byte one by one, from the highest on, as what a byte adds is what its bits add: so a small block's table costs no more than its sum.
func (t *sumTable) fill() {
	word := uint32(polynomial)
	for bit := len(t) / 2; bit > 0; bit /= 2 {
		for i := 0; i < len(t); i += 2 * bit {
			t[i+bit] = t[i] ^ word
		}
		word = word>>1 ^ polynomial*(word&1)
	}
}

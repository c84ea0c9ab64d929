package recs_test

import (
	"bytes"
	"encoding/binary"
	"encoding/hex"
	"hash/crc32"
	"math"
	"slices"
	"strings"
	"sync"
	"testing"

	"strata/api"
	"strata/recs"
)

func TestFitOfEachBlock(t *testing.T) { // P3.7
	for _, c := range []struct{ block, want int }{
		{64, 1}, {96, 2}, {128, 3}, {4096, 127}, {65504, 2046}, {65536, 2047},
		{32, 0}, {63, 0}, {65, 0}, {80, 0}, {65535, 0}, {65568, 0}, {131072, 0},
		{0, 0}, {-32, 0}, {-64, 0}, {-96, 0}, {math.MinInt, 0}, {math.MaxInt, 0}, {math.MaxInt - 31, 0},
	} {
		if got := recs.Fit(c.block); got != c.want {
			t.Errorf("Fit(%d) = %d, want %d", c.block, got, c.want)
		}
	}
	for block := range 70000 {
		want := 0
		if block%32 == 0 && block >= 64 && block <= 65536 {
			want = block/32 - 1
		}
		if got := recs.Fit(block); got != want {
			t.Fatalf("Fit(%d) = %d, want %d", block, got, want)
		}
	}
}

func TestSum(t *testing.T) { // P3.10
	if got := recs.Sum([]byte("123456789")); got != 3421780262 {
		t.Errorf("Sum = %X", got)
	}
	if recs.Sum(nil) != 0 || recs.Sum([]byte{}) != 0 {
		t.Errorf("Sum of none: %X, %X", recs.Sum(nil), recs.Sum([]byte{}))
	}
	r := dice(3)
	for n := range 700 {
		b := make([]byte, n)
		for i := range b {
			b[i] = byte(r.below(256))
		}
		kept := bytes.Clone(b)
		if got, want := recs.Sum(b), crc32.ChecksumIEEE(b); got != want {
			t.Fatalf("Sum of %d bytes = %X, want %X", n, got, want)
		}
		if !bytes.Equal(b, kept) {
			t.Fatalf("Sum has changed its bytes")
		}
	}
	for x := range 256 {
		if b := []byte{byte(x)}; recs.Sum(b) != crc32.ChecksumIEEE(b) {
			t.Errorf("Sum of byte %d = %X", x, recs.Sum(b))
		}
	}
}

func TestSumFromManyAtOnce(t *testing.T) { // P3.10: sums that go on beside one another
	var all sync.WaitGroup
	for range 16 {
		all.Go(func() {
			if recs.Sum([]byte("123456789")) != 0xCBF43926 {
				t.Error("Sum is otherwise")
			}
		})
	}
	all.Wait()
}

// written is the block by the document's words, made by other means than the program's.
func written(kind int, place uint64, list []api.Rec, block int) []byte {
	var b []byte
	b = append(b, "STRA"...)
	b = append(b, 1, byte(kind))
	b = binary.LittleEndian.AppendUint16(b, uint16(len(list)))
	b = binary.LittleEndian.AppendUint64(b, place)
	b = append(b, make([]byte, 12)...)
	for _, x := range list {
		for _, w := range x {
			b = binary.LittleEndian.AppendUint64(b, w)
		}
	}
	b = append(b, make([]byte, block-4-len(b))...)
	return binary.LittleEndian.AppendUint32(b, crc32.ChecksumIEEE(b))
}

func someRecs(r *dice, n int) []api.Rec {
	list := make([]api.Rec, n)
	for i := range list {
		for j := range list[i] {
			list[i][j] = r.word()
		}
	}
	return list
}

func TestEncodeByExamples(t *testing.T) { // P3.8
	zeros := func(n int) string { return strings.Repeat("00", n) }
	for _, c := range []struct {
		kind, place int
		list        []api.Rec
		block       int
		want        string
	}{
		{1, 0, []api.Rec{{1, 2, 3, 4}}, 64,
			"5354524101010100" + zeros(20) + "01" + zeros(7) + "02" + zeros(7) + "03" + zeros(7) + "04" + zeros(7) + "7fb553f9"},
		{2, 258, []api.Rec{{5, 0, 0, 0}}, 96,
			"53545241010201000201" + zeros(6) + zeros(12) + "05" + zeros(31) + zeros(32) + "4ecb239b"},
	} {
		b, e := recs.Encode(c.kind, c.place, c.list, c.block)
		if e != api.OK || hex.EncodeToString(b) != c.want {
			t.Errorf("Encode(%d, %d, %v, %d) = %x, %d", c.kind, c.place, c.list, c.block, b, e)
		}
	}
}

func TestEncodeWritesEachByte(t *testing.T) { // P3.8
	r := dice(4)
	for _, block := range []int{64, 96, 128, 4096, 65504, 65536} {
		most := block/32 - 1
		for _, n := range []int{1, min(2, most), most/2 + 1, max(most-1, 1), most} {
			for _, kind := range []int{1, 2, 5, 128, 255} {
				place := []int{0, 1, 255, 258, 1<<40 - 1, math.MaxInt}[r.below(6)]
				list := someRecs(&r, n)
				b, e := recs.Encode(kind, place, list, block)
				if e != api.OK || !bytes.Equal(b, written(kind, uint64(place), list, block)) {
					t.Errorf("Encode(%d, %d, %d records, %d): %d, otherwise than the document", kind, place, n, block, e)
				}
			}
		}
	}
}

func TestEncodeRefuses(t *testing.T) { // P3.8
	for _, c := range []struct {
		kind, place, n, block int
		want                  api.Errno
	}{
		{1, 0, 1, 64, api.OK},
		{255, math.MaxInt, 1, 64, api.OK},
		{1, 0, 2, 96, api.OK},
		{1, 0, 2047, 65536, api.OK},
		{0, 0, 1, 64, api.ErrArg},
		{256, 0, 1, 64, api.ErrArg},
		{257, 0, 1, 64, api.ErrArg},
		{-1, 0, 1, 64, api.ErrArg},
		{math.MinInt, 0, 1, 64, api.ErrArg},
		{math.MaxInt, 0, 1, 64, api.ErrArg},
		{1, -1, 1, 64, api.ErrArg},
		{1, math.MinInt, 1, 64, api.ErrArg},
		{1, 0, 1, 32, api.ErrArg},
		{1, 0, 1, 80, api.ErrArg},
		{1, 0, 1, 65568, api.ErrArg},
		{1, 0, 1, 0, api.ErrArg},
		{1, 0, 1, -64, api.ErrArg},
		{1, 0, 1, math.MaxInt, api.ErrArg},
		{1, 0, 0, 64, api.ErrArg},
		{1, 0, 2, 64, api.ErrMany},
		{1, 0, 3, 96, api.ErrMany},
		{1, 0, 2048, 65536, api.ErrMany},
		{1, 0, 65537, 96, api.ErrMany},
		{0, 0, 2, 64, api.ErrArg},
		{256, 0, 2, 64, api.ErrArg},
		{1, -1, 2, 64, api.ErrArg},
		{1, 0, 2, 80, api.ErrArg},
	} {
		b, e := recs.Encode(c.kind, c.place, make([]api.Rec, c.n), c.block)
		if e != c.want || (b == nil) != (e != api.OK) {
			t.Errorf("Encode of %+v: %d bytes, %d", c, len(b), e)
		}
	}
	if b, e := recs.Encode(1, 0, nil, 64); e != api.ErrArg || b != nil {
		t.Errorf("Encode of a nil list: %x, %d", b, e)
	}
}

// mended is the block with its bytes from i on changed, and the sum that fits.
func mended(b []byte, i int, to ...byte) []byte {
	c := bytes.Clone(b)
	copy(c[i:], to)
	binary.LittleEndian.PutUint32(c[len(c)-4:], crc32.ChecksumIEEE(c[:len(c)-4]))
	return c
}

// turned is the block with one byte changed, its sum left as it was.
func turned(b []byte, i int) []byte {
	c := bytes.Clone(b)
	c[i] ^= 1
	return c
}

func decodes(t *testing.T, what string, kind, place int, b []byte, want api.Errno) {
	t.Helper()
	list, e := recs.Decode(kind, place, b)
	if e != want || (list == nil) != (e != api.OK) {
		t.Errorf("Decode of %s: %v, %d, want %d", what, list, e, want)
	}
}

func TestDecodeReads(t *testing.T) { // P3.9
	r := dice(5)
	for _, block := range []int{64, 96, 4096, 65536} {
		most := block/32 - 1
		for _, n := range []int{1, most/2 + 1, most} {
			list := someRecs(&r, n)
			got, e := recs.Decode(255, 77, written(255, 77, list, block))
			if e != api.OK || !slices.Equal(got, list) {
				t.Errorf("Decode of %d records in %d bytes: %v, %d", n, block, got, e)
			}
		}
	}
}

func TestDecodeRefusesArguments(t *testing.T) { // P3.9
	good := written(1, 0, []api.Rec{{1, 2, 3, 4}}, 64)
	for _, kind := range []int{0, 256, 257, -1, -255, math.MinInt, math.MaxInt} {
		decodes(t, "a good block by a wrong kind", kind, 0, good, api.ErrArg)
		decodes(t, "a spoilt block by a wrong kind", kind, 0, turned(good, 63), api.ErrArg)
	}
	for _, place := range []int{-1, math.MinInt} {
		decodes(t, "a good block by a wrong place", 1, place, good, api.ErrArg)
		decodes(t, "a spoilt block by a wrong place", 1, place, turned(good, 63), api.ErrArg)
	}
	decodes(t, "nothing", 1, 0, nil, api.ErrArg)
	for _, n := range []int{0, 1, 3, 4, 27, 28, 32, 63, 65, 80, 65535, 65537, 65568, 131072} {
		decodes(t, "so many bytes", 1, 0, make([]byte, n), api.ErrArg)
	}
	decodes(t, "the greatest place", 1, math.MaxInt, written(1, math.MaxInt, []api.Rec{{}}, 64), api.OK)
}

func TestDecodeTellsASpoiltBlock(t *testing.T) { // P3.9
	good := written(1, 0, []api.Rec{{1, 2, 3, 4}}, 96)
	for i := range good {
		decodes(t, "a block with a byte turned", 1, 0, turned(good, i), api.ErrSpoilt)
		decodes(t, "the same, asked for as another", 2, 7, turned(good, i), api.ErrSpoilt)
	}
	decodes(t, "the last byte turned whole", 1, 0, append(good[:95:95], ^good[95]), api.ErrSpoilt)
	decodes(t, "a piece of a block", 1, 0, good[:64], api.ErrSpoilt)
	decodes(t, "64 bytes 0", 1, 0, make([]byte, 64), api.ErrSpoilt)
}

func TestDecodeTellsWhatIsNoBlock(t *testing.T) { // P3.9
	good := written(1, 0, []api.Rec{{1, 2, 3, 4}}, 128)
	decodes(t, "64 bytes 0 with the right sum", 1, 0, mended(make([]byte, 64), 0), api.ErrForm)
	for i := range 4 {
		decodes(t, "another head", 1, 0, mended(good, i, good[i]+1), api.ErrForm)
	}
	for _, version := range []byte{0, 2, 255} {
		decodes(t, "another version", 1, 0, mended(good, 4, version), api.ErrForm)
	}
	decodes(t, "the kind 0", 1, 0, mended(good, 5, 0), api.ErrForm)
	for _, count := range [][]byte{{0, 0}, {4, 0}, {255, 0}, {0, 1}, {1, 1}, {0, 128}, {255, 255}} {
		decodes(t, "another count", 1, 0, mended(good, 6, count...), api.ErrForm)
	}
	for i := 16; i < 28; i++ {
		decodes(t, "a byte of the head that is not 0", 1, 0, mended(good, i, 1), api.ErrForm)
	}
	for i := 60; i < 124; i++ {
		decodes(t, "a byte behind the records", 1, 0, mended(good, i, 128), api.ErrForm)
	}
	for i := 28; i < 60; i++ {
		decodes(t, "another record", 1, 0, mended(good, i, 200), api.OK)
	}
	decodes(t, "a count that takes what is behind in", 1, 0, mended(mended(good, 6, 3), 123, 1), api.OK)
	decodes(t, "a byte behind two records", 1, 0, mended(mended(good, 6, 2), 92, 1), api.ErrForm)
	full := written(1, 0, make([]api.Rec, 2047), 65536)
	decodes(t, "one more than the greatest block holds", 1, 0, mended(full, 6, 0, 8), api.ErrForm)
}

func TestDecodeTellsAnotherBlock(t *testing.T) { // P3.9
	good := written(1, 0, []api.Rec{{1, 2, 3, 4}}, 64)
	decodes(t, "another kind", 2, 0, good, api.ErrKind)
	decodes(t, "another kind", 255, 0, good, api.ErrKind)
	decodes(t, "another place", 1, 1, good, api.ErrKind)
	decodes(t, "another place", 1, math.MaxInt, good, api.ErrKind)
	for i := 8; i < 16; i++ {
		decodes(t, "another place in the block", 1, 0, mended(good, i, 128), api.ErrKind)
	}
	decodes(t, "that place", 1, 1<<16, mended(good, 10, 1), api.OK)
	decodes(t, "that kind", 3, 0, mended(good, 5, 3), api.OK)
	for _, place := range []uint64{1 << 63, 1<<63 + 5, 1<<64 - 1} {
		b := written(1, place, []api.Rec{{}}, 64)
		for _, asked := range []int{0, 5, int(place &^ (1 << 63)), math.MaxInt} {
			decodes(t, "a place that nobody may ask for", 1, asked, b, api.ErrKind)
		}
	}
}

func TestDecodeAsksInOrder(t *testing.T) { // P3.9
	good := written(1, 0, []api.Rec{{1, 2, 3, 4}}, 96)
	noForm := map[string][]byte{
		"a head":                  mended(good, 0, 0),
		"a version":               mended(good, 4, 0),
		"a count":                 mended(good, 6, 3),
		"a zero":                  mended(good, 20, 1),
		"a byte behind":           mended(good, 91, 1),
		"a kind of 0":             mended(good, 5, 0),
		"a head, place and kind":  mended(mended(good, 8, 1), 0, 0),
		"a byte behind and place": mended(mended(good, 8, 1), 60, 1),
	}
	for what, b := range noForm {
		decodes(t, what+", sum too", 1, 0, turned(b, 95), api.ErrSpoilt)
		decodes(t, what+", kind too", 2, 0, b, api.ErrForm)
		decodes(t, what+", place too", 1, 7, b, api.ErrForm)
		decodes(t, what+", argument too", 1, -1, b, api.ErrArg)
	}
	decodes(t, "a block whose length and sum are wrong", 1, 0, turned(good, 2)[:95], api.ErrArg)
}

func TestEncodeAndDecodeTakeOneAnotherBack(t *testing.T) { // P3.11
	r := dice(6)
	for range 3000 {
		block := 64 + 32*r.below(30)
		kind, place := 1+r.below(255), int(r.word()>>(1+r.below(63)))
		list := someRecs(&r, 1+r.below(recs.Fit(block)))
		b, e := recs.Encode(kind, place, list, block)
		if e != api.OK {
			t.Fatalf("Encode: %d", e)
		}
		got, e := recs.Decode(kind, place, b)
		if e != api.OK || !slices.Equal(got, list) {
			t.Fatalf("Decode of Encode: %d", e)
		}
		decodes(t, "another kind", kind%255+1, place, b, api.ErrKind)
		decodes(t, "another place", kind, place^1<<r.below(63), b, api.ErrKind)
	}
}

// P3.11: where Decode takes bytes with some changed, Encode of its answer makes those very bytes.
func TestDecodeAndEncodeTakeOneAnotherBack(t *testing.T) {
	r := dice(7)
	taken := 0
	for range 20000 {
		block := 64 + 32*r.below(3)
		b := written(1, 0, someRecs(&r, 1+r.below(recs.Fit(block))), block)
		b = mended(b, r.below(block-4), byte(r.below(4)))
		kind, place := max(1, int(b[5])), int(binary.LittleEndian.Uint64(b[8:])&math.MaxInt)
		list, e := recs.Decode(kind, place, b)
		if e != api.OK {
			continue
		}
		taken++
		if back, e := recs.Encode(kind, place, list, len(b)); e != api.OK || !bytes.Equal(back, b) {
			t.Fatalf("Encode of Decode of %x: %x, %d", b, back, e)
		}
	}
	if taken < 1000 {
		t.Errorf("only %d blocks were taken", taken)
	}
}

// turnBits turns the bits of pattern, the first of them number at.
func turnBits(b []byte, at int, pattern uint32) []byte {
	c := bytes.Clone(b)
	for i := range 32 {
		if pattern>>i&1 == 1 {
			c[(at+i)/8] ^= 1 << ((at + i) % 8)
		}
	}
	return c
}

func TestOneBurstIsTold(t *testing.T) { // P3.12
	r := dice(8)
	for _, block := range []int{64, 96, 160} {
		good, _ := recs.Encode(2, 3, someRecs(&r, recs.Fit(block)), block)
		decodes(t, "the block as it was", 2, 3, good, api.OK)
		for at := range 8*block - 31 {
			patterns := []uint32{1, 3, 1 << 31, 1<<31 | 1, 1<<32 - 1, 0x04C11DB7, 0xEDB88320, 0xDB710641}
			for range 20 {
				patterns = append(patterns, uint32(r.word())|1<<r.below(32))
			}
			for _, pattern := range patterns {
				decodes(t, "a block with a burst", 2, 3, turnBits(good, at, pattern), api.ErrSpoilt)
			}
		}
	}
}

// P3.12 for all bursts of a block: what bits change is added bit by bit, so no burst goes untold if the changes of each 32 bits in a row are independent of one another.
func TestNoBurstGoesUntold(t *testing.T) {
	good := written(1, 0, []api.Rec{{1, 2, 3, 4}}, 96)
	changes := make([]uint32, 8*len(good))
	for at := range changes {
		c := bytes.Clone(good)
		c[at/8] ^= 1 << (at % 8)
		changes[at] = recs.Sum(c[:92]) ^ binary.LittleEndian.Uint32(c[92:])
	}
	for at := range len(changes) - 31 {
		if !independent(changes[at : at+32]) {
			t.Errorf("a burst from bit %d on would go untold", at)
		}
	}
}

func independent(list []uint32) bool {
	var base [32]uint32 // by the highest bit
	for _, x := range list {
		for i := 31; i >= 0 && x != 0; i-- {
			if x>>i&1 == 0 {
				continue
			}
			if base[i] == 0 {
				base[i] = x
				break
			}
			x ^= base[i]
		}
		if x == 0 {
			return false
		}
	}
	return true
}

// What is handed in stays as it was, its spare room too; an answer shares no memory with it, nor with another answer.
func TestNothingIsChangedOrShared(t *testing.T) {
	r := dice(9)
	room := someRecs(&r, 8)
	keptRoom := slices.Clone(room)
	b, e := recs.Encode(1, 0, room[:3], 128)
	if e != api.OK || !slices.Equal(room, keptRoom) {
		t.Fatalf("Encode: %d, its list %v", e, room)
	}
	again, _ := recs.Encode(1, 0, room[:3], 128)
	fill(again[:cap(again)], 0xEE)
	if !bytes.Equal(b, written(1, 0, keptRoom[:3], 128)) {
		t.Errorf("two answers of Encode share memory")
	}
	bytesRoom := append(bytes.Clone(b), 1, 2, 3, 4, 5)
	keptBytes := bytes.Clone(bytesRoom)
	list, e := recs.Decode(1, 0, bytesRoom[:128])
	if e != api.OK || !bytes.Equal(bytesRoom, keptBytes) {
		t.Fatalf("Decode: %d, its bytes %x", e, bytesRoom)
	}
	other, _ := recs.Decode(1, 0, bytesRoom[:128])
	fill(other[:cap(other)], api.Rec{9, 9, 9, 9})
	fill(bytesRoom, 0)
	if !slices.Equal(list, keptRoom[:3]) {
		t.Errorf("an answer of Decode shares memory")
	}
	fill(list[:cap(list)], api.Rec{7, 7, 7, 7})
	fill(b[:cap(b)], 0xDD)
	if !slices.Equal(room, keptRoom) {
		t.Errorf("an answer of Encode shares memory with its list")
	}
}

func fill[T any](list []T, x T) {
	for i := range list {
		list[i] = x
	}
}

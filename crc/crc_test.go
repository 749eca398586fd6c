package crc

import (
	"bytes"
	"hash/crc32"
	"math"
	"slices"
	"strings"
	"testing"
)

// bitByBit is the sum of what had the sum c, and b behind it, by the
// chapter's polynomial alone, a bit at a time.
func bitByBit(c uint32, b []byte) uint32 {
	c = ^c
	for _, x := range b {
		c ^= uint32(x)
		for range 8 {
			low := c & 1
			c >>= 1
			if low == 1 {
				c ^= 0x82f63b78
			}
		}
	}
	return ^c
}

// otherWay is the same by the library's table.
func otherWay(c uint32, b []byte) uint32 {
	return crc32.Update(c, crc32.MakeTable(crc32.Castagnoli), b)
}

// mixed are size bytes without a pattern that the sum might share; others at
// each seed.
func mixed(size int, seed uint64) []byte {
	b := make([]byte, size)
	n := seed*0x9e3779b97f4a7c15 + 0xd1342543de82ef95
	for i := range b {
		n ^= n << 13
		n ^= n >> 7
		n ^= n << 17
		b[i] = byte(n >> 56)
	}
	return b
}

// manyPieces are bytes of many lengths: none, few, on both sides of 256 and
// 4,096; all alike, rising, falling and mixed.
func manyPieces() [][]byte {
	l := [][]byte{nil, {}, []byte("123456789"), []byte("e\u0301"), []byte("\xff\x00\xed\xa0\x80")}
	sizes := []int{1, 2, 3, 4, 5, 7, 8, 9, 15, 16, 17, 31, 32, 33, 63, 64, 65, 127, 128,
		255, 256, 257, 258, 511, 512, 513, 1000, 4095, 4096, 4097}
	for _, size := range sizes {
		rising := make([]byte, size)
		for i := range rising {
			rising[i] = byte(i)
		}
		falling := slices.Clone(rising)
		slices.Reverse(falling)
		l = append(l, rising, falling, mixed(size, uint64(size)))
		for _, c := range []byte{0, 1, 0x0f, 0x10, 0x7f, 0x80, 0xf0, 0xff} {
			l = append(l, bytes.Repeat([]byte{c}, size))
		}
	}
	return l
}

// manySums are sums to go on from: edges, and one for each bit.
func manySums() []uint32 {
	l := []uint32{0, 1, 0x0f, 0xf0, 0xff, 0x100, 0x82f63b78, 0xe3069283, math.MaxInt32,
		1 << 31, math.MaxUint32 - 1, math.MaxUint32}
	for i := range 32 {
		l = append(l, 1<<i, ^uint32(1<<i))
	}
	return l
}

func TestSumOfNoBytes(t *testing.T) {
	for _, b := range [][]byte{nil, {}, make([]byte, 0, 9), []byte("123456789")[:0], []byte("123456789")[9:]} {
		if c := Sum(b); c != 0 {
			t.Errorf("P9.1: Sum of no bytes: %08x", c)
		}
	}
}

func TestSumsThatAreKnown(t *testing.T) {
	rising := make([]byte, 32)
	for i := range rising {
		rising[i] = byte(i)
	}
	falling := slices.Clone(rising)
	slices.Reverse(falling)
	for s, want := range map[string]uint32{
		"123456789":                0xe3069283,
		"a":                        0xc1d04330,
		"abc":                      0x364b3fb7,
		"\x00":                     0x527d5351,
		"\xff":                     0xff000000,
		"\xff\xff\xff\xff":         0xffffffff,
		"\x00\x00\x00\x00":         0x48674bc7,
		strings.Repeat("\x00", 32): 0x8a9136aa,
		strings.Repeat("\xff", 32): 0x62a8ab43,
		string(rising):             0x46dd794e,
		string(falling):            0x113fdb5c,
	} {
		if c := Sum([]byte(s)); c != want {
			t.Errorf("P9.1: Sum(%.24q): %08x, not %08x", s, c, want)
		}
	}
}

func TestSumOfOneByteOfEachKind(t *testing.T) {
	seen := map[uint32]int{}
	for i := range 256 {
		b := []byte{byte(i)}
		c := Sum(b)
		if c != bitByBit(0, b) || c != otherWay(0, b) {
			t.Errorf("P9.1: Sum(%x): %08x, not %08x", b, c, bitByBit(0, b))
		}
		if other, ok := seen[c]; ok {
			t.Errorf("P9.1: Sum of the byte %x is that of the byte %x", i, other)
		}
		seen[c] = i
	}
}

func TestSumOfTwoBytesOfEachKind(t *testing.T) {
	for i := range 1 << 16 {
		b := []byte{byte(i), byte(i >> 8)}
		if c := Sum(b); c != otherWay(0, b) {
			t.Fatalf("P9.1: Sum(%x): %08x, not %08x", b, c, otherWay(0, b))
		}
	}
}

func TestSumOfManyBytes(t *testing.T) {
	for _, b := range manyPieces() {
		c := Sum(b)
		if c != bitByBit(0, b) || c != otherWay(0, b) {
			t.Errorf("P9.1: Sum(%.24x), of %d bytes: %08x, not %08x", b, len(b), c, bitByBit(0, b))
		}
	}
	long := mixed(1<<21+3, 1)
	if c := Sum(long); c != otherWay(0, long) {
		t.Errorf("P9.1: Sum of %d bytes: %08x, not %08x", len(long), c, otherWay(0, long))
	}
}

func TestSumOfEachLengthOfOneByte(t *testing.T) {
	// No length is like another, not even of bytes all 0, which a sum that is
	// not begun with ones can't tell apart.
	for _, x := range []byte{0, 0xff} {
		seen := map[uint32]int{}
		for size := range 700 {
			b := bytes.Repeat([]byte{x}, size)
			c := Sum(b)
			if c != bitByBit(0, b) {
				t.Errorf("P9.1: Sum of %d bytes %02x: %08x, not %08x", size, x, c, bitByBit(0, b))
			}
			if other, ok := seen[c]; ok {
				t.Errorf("P9.1: Sum of %d bytes %02x is that of %d", size, x, other)
			}
			seen[c] = size
		}
	}
}

func TestSumLooksAtNoSpareRoom(t *testing.T) {
	room := mixed(300, 2)
	for i := range room {
		if Sum(room[:i]) != Sum(slices.Clone(room[:i])) || Sum(room[i:]) != bitByBit(0, room[i:]) {
			t.Errorf("P9.1: Sum of a piece at %d hangs on what lies beside it", i)
		}
	}
}

func TestMoreOfEachFrontAndItsRest(t *testing.T) {
	for _, b := range manyPieces() {
		whole := Sum(b)
		for i := 0; i <= len(b); i += 1 + i/64 {
			if c := More(Sum(b[:i]), b[i:]); c != whole {
				t.Errorf("P9.1: More at %d of %d bytes (%.24x): %08x, not %08x", i, len(b), b, c, whole)
			}
		}
	}
	b := mixed(700, 3)
	for i := range len(b) + 1 {
		if More(Sum(b[:i]), b[i:]) != Sum(b) {
			t.Errorf("P9.1: More at %d of %d mixed bytes", i, len(b))
		}
	}
}

func TestMoreOfAnEmptyFrontOrRest(t *testing.T) {
	for _, b := range manyPieces() {
		for _, none := range [][]byte{nil, {}, b[:0], b[len(b):]} {
			if More(Sum(none), b) != Sum(b) {
				t.Errorf("P9.1: More of no bytes and %.24x: %08x, not %08x", b, More(Sum(none), b), Sum(b))
			}
			if More(Sum(b), none) != Sum(b) {
				t.Errorf("P9.1: More of %.24x and no bytes: %08x, not %08x", b, More(Sum(b), none), Sum(b))
			}
		}
	}
}

func TestMoreOfNoBytesIsTheSumItself(t *testing.T) {
	for _, c := range manySums() {
		if More(c, nil) != c || More(c, []byte{}) != c {
			t.Errorf("P9.1: More(%08x) of no bytes: %08x, %08x", c, More(c, nil), More(c, []byte{}))
		}
	}
}

func TestMoreOverThreePieces(t *testing.T) {
	b := append([]byte("123456789"), mixed(60, 4)...)
	whole := Sum(b)
	for i := range len(b) + 1 {
		for j := i; j <= len(b); j++ {
			if c := More(More(Sum(b[:i]), b[i:j]), b[j:]); c != whole {
				t.Fatalf("P9.1: More at %d and %d: %08x, not %08x", i, j, c, whole)
			}
		}
	}
}

func TestMoreByteByByte(t *testing.T) {
	for _, b := range manyPieces() {
		c := Sum(nil)
		for i := range b {
			c = More(c, b[i:i+1])
			if i%97 == 0 && c != Sum(b[:i+1]) {
				t.Errorf("P9.1: More byte by byte, at %d of %.24x: %08x, not %08x", i, b, c, Sum(b[:i+1]))
			}
		}
		if c != Sum(b) {
			t.Errorf("P9.1: More byte by byte of %.24x: %08x, not %08x", b, c, Sum(b))
		}
	}
}

func TestMoreFromManySums(t *testing.T) {
	for _, c := range manySums() {
		for i := range 256 {
			b := []byte{byte(i)}
			if More(c, b) != bitByBit(c, b) || More(c, b) != otherWay(c, b) {
				t.Errorf("P9.1: More(%08x, %x): %08x, not %08x", c, b, More(c, b), bitByBit(c, b))
			}
		}
		b := mixed(300, uint64(c))
		if More(c, b) != bitByBit(c, b) {
			t.Errorf("P9.1: More(%08x) of 300 bytes: %08x, not %08x", c, More(c, b), bitByBit(c, b))
		}
	}
}

func TestAByteThatIsChangedChangesTheSum(t *testing.T) {
	for _, size := range []int{1, 2, 9, 300} {
		b := mixed(size, 5)
		whole := Sum(b)
		for i := range b {
			for x := 1; x < 256; x++ {
				b[i] ^= byte(x)
				if Sum(b) == whole {
					t.Errorf("P9.1: byte %d of %d changed by %02x: the sum stays", i, size, x)
				}
				b[i] ^= byte(x)
			}
		}
	}
}

// wantChanged fails if b's sum is whole while the bytes from i on are changed
// by those of by; b is as it was then.
func wantChanged(t *testing.T, b []byte, whole uint32, i int, by []byte) {
	t.Helper()
	for j, x := range by {
		b[i+j] ^= x
	}
	if Sum(b) == whole {
		t.Errorf("P9.1: bytes from %d of %d on changed by %x: the sum stays", i, len(b), by)
	}
	for j, x := range by {
		b[i+j] ^= x
	}
}

func TestUpToFourBytesThatAreChangedChangeTheSum(t *testing.T) {
	edges := []byte{0, 1, 0x0f, 0x78, 0x80, 0x82, 0xf6, 0xff}
	for _, b := range [][]byte{mixed(4, 6), make([]byte, 4), mixed(40, 7), bytes.Repeat([]byte{0xff}, 40), mixed(300, 8)} {
		whole := Sum(b)
		for i := 0; i+4 <= len(b); i += 1 + i/8 {
			for k := 1; k < 1<<12; k++ {
				by := []byte{edges[k&7], edges[k>>3&7], edges[k>>6&7], edges[k>>9]}
				wantChanged(t, b, whole, i, by)
			}
			for seed := range uint64(200) {
				for size := 2; size <= 4; size++ {
					by := mixed(size, seed)
					by[0] |= 1
					wantChanged(t, b, whole, i, by)
				}
			}
		}
	}
}

func TestFourBytesMakeEachSumOnce(t *testing.T) {
	// The sum of four bytes is linear in their bits but for what no bits make:
	// no two of them are alike if those of single bits span all 32.
	base := Sum(make([]byte, 4))
	var heads [32]uint32
	for i := range 32 {
		b := make([]byte, 4)
		b[i/8] = 1 << (i % 8)
		v := Sum(b) ^ base
		for bit := 31; bit >= 0 && v != 0; bit-- {
			if v>>bit&1 == 0 {
				continue
			}
			if heads[bit] == 0 {
				heads[bit] = v
				break
			}
			v ^= heads[bit]
		}
		if v == 0 {
			t.Errorf("P9.1: bit %d of four bytes adds nothing to those ahead of it", i)
		}
	}
}

func TestBytesThatChangePlacesChangeTheSum(t *testing.T) {
	b := mixed(64, 9)
	whole := Sum(b)
	for i := range b {
		for j := range i {
			if b[i] == b[j] {
				continue
			}
			b[i], b[j] = b[j], b[i]
			if Sum(b) == whole {
				t.Errorf("P9.1: bytes %d and %d change places: the sum stays", j, i)
			}
			b[i], b[j] = b[j], b[i]
		}
	}
}

func TestWhatIsHandedInStaysAsItIs(t *testing.T) {
	room := mixed(400, 10)
	kept := slices.Clone(room)
	for i := 0; i <= len(room); i += 7 {
		for j := i; j <= len(room); j += 5 {
			Sum(room[i:j])
			More(uint32(i*j), room[i:j])
		}
	}
	if !bytes.Equal(room, kept) {
		t.Error("P0.3: bytes that were handed in are changed")
	}
}

func TestAnswersHangOnTheArgumentsAlone(t *testing.T) {
	b := mixed(300, 11)
	sum, more := Sum(b), More(7, b)
	first := slices.Clone(b)
	for i := range b {
		b[i] = 0xee
		Sum(b)
		More(uint32(i), b)
	}
	if Sum(first) != sum || More(7, first) != more {
		t.Error("P0.5: an answer hangs on the calls ahead of it")
	}
	if Sum(b) != bitByBit(0, b) {
		t.Error("P0.5: a sum hangs on what the bytes were")
	}
}

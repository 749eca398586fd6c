package bloom

import (
	"hash/fnv"
	"math/big"
	"strconv"
	"strings"
)

// sumOf is the library's FNV-1a of s, in 64 bits.
func sumOf(s string) uint64 {
	sum := fnv.New64a()
	sum.Write([]byte(s))
	return sum.Sum64()
}

// stepOf is h turned right by 17 bits: the low ones come in at the top, one
// by one.
func stepOf(h uint64) uint64 {
	for range 17 {
		low := h & 1
		h = h>>1 | low<<63
	}
	return h
}

// roundPlaces are the six bits, of so many, that stand for s, reckoned with
// numbers that have no bound and are cut to 64 bits each time.
func roundPlaces(s string, bits int) []int {
	round := new(big.Int).Lsh(big.NewInt(1), 64)
	h := new(big.Int).SetUint64(sumOf(s))
	d := new(big.Int).SetUint64(stepOf(sumOf(s)))
	var l []int
	for i := range int64(6) {
		at := new(big.Int).Mul(d, big.NewInt(i))
		at.Add(at, h).Mod(at, round)
		l = append(l, int(at.Mod(at, big.NewInt(int64(bits))).Int64()))
	}
	return l
}

// straightPlaces are the same for sums that would not go round.
func straightPlaces(s string, bits int) []int {
	h := new(big.Int).SetUint64(sumOf(s))
	d := new(big.Int).SetUint64(stepOf(sumOf(s)))
	var l []int
	for range 6 {
		l = append(l, int(new(big.Int).Mod(h, big.NewInt(int64(bits))).Int64()))
		h.Add(h, d)
	}
	return l
}

// bitsFor is how many bits a filter of n texts has, found by going up.
func bitsFor(n int) int {
	bits := 64
	for bits < 10*n {
		bits += 8
	}
	return bits
}

// modelMake makes the filter of norms by a list of the bits that are set,
// taken eight at a time.
func modelMake(norms []string) []byte {
	set := make([]bool, bitsFor(len(norms)))
	for _, s := range norms {
		for _, k := range roundPlaces(s, len(set)) {
			set[k] = true
		}
	}
	var filter []byte
	for i := 0; i < len(set); i += 8 {
		sum, worth := 0, 1
		for _, b := range set[i : i+8] {
			if b {
				sum += worth
			}
			worth *= 2
		}
		filter = append(filter, byte(sum))
	}
	return append(filter, 6)
}

// modelMay asks filter about s, bit by bit.
func modelMay(filter []byte, s string) bool {
	if len(filter) < 2 || filter[len(filter)-1] != 6 {
		return true
	}
	missing := 0
	for _, k := range roundPlaces(s, 8*(len(filter)-1)) {
		if int(filter[k/8])/(1<<(k%8))%2 == 0 {
			missing++
		}
	}
	return missing == 0
}

// numbered are n texts, no two of them alike.
func numbered(front string, n int) []string {
	var l []string
	for i := range n {
		l = append(l, front+strconv.Itoa(i))
	}
	return l
}

// times is a list in which s comes n times.
func times(s string, n int) []string {
	var l []string
	for range n {
		l = append(l, s)
	}
	return l
}

// manyTexts are texts of many kinds: the empty one, canonical forms, others,
// any bytes, long ones; no two of them alike.
func manyTexts() []string {
	l := []string{
		"", "a", "b", "abc", "key 1", "e\u0301", "\u00e9", "\u1112\u1161\u11ab", "\ud55c",
		"\U0001f600\u20ac", "\U0010ffff", "\x00", "\x00\x00", "\xff", "\xff\xff", "a\x00", "\xed\xa0\x80",
		"\xc3", "\x80a", "\x06", "\n\t ",
		strings.Repeat("\x00", 9), strings.Repeat("ab", 50), strings.Repeat("k", 4096),
		strings.Repeat("\u03b9\u0308\u0301", 2048), strings.Repeat("x\xff", 1<<13),
	}
	for i := range 256 {
		l = append(l, string([]byte{'k', byte(i)}), string([]byte{byte(i), 0, byte(255 - i)}))
	}
	return append(l, numbered("key", 200)...)
}

// mixedBytes are size bytes without a pattern, with many bits set where dense
// is; others at each seed.
func mixedBytes(size int, seed uint64, dense bool) []byte {
	b := make([]byte, size)
	n := seed*0x9e3779b97f4a7c15 + 0xd1342543de82ef95
	for i := range b {
		n ^= n << 13
		n ^= n >> 7
		n ^= n << 17
		b[i] = byte(n >> 56)
		if dense {
			b[i] |= byte(n>>40) | byte(n>>24)
		}
	}
	return b
}

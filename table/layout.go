package table

import (
	"slices"

	"incipit/api"
	"incipit/crc"
	"incipit/varint"
)

// A table begins with its length. Its blocks follow, the filter, the index and
// the end, each of these with its sum behind it, so that each byte that is
// changed spoils a sum, or the length. The end tells how many bytes the filter
// and the index have, and has api.Magic.
//
// The length stands ahead for the sake of tables that are cut: what is ahead of
// the cut may be a value's bytes that look like the end of another table.
const (
	lengthBytes = 8
	magicBytes  = 4
	sumBytes    = 4
	endBytes    = 2*lengthBytes + magicBytes + sumBytes
)

// part is what the index tells of a block: its last entry (of this Norm and Seq
// alone), where it begins among the blocks, how many bytes it has with its sum,
// and how many entries.
type part struct {
	last  api.Entry
	at    int
	size  int
	count int
}

// putTogether makes a table's bytes of its blocks, which have their sums, its
// filter and its index.
func putTogether(blocks, filter, index []byte) []byte {
	filter, index = seal(filter), seal(index)
	end := seal(slices.Concat(varint.Put64(uint64(len(filter))), varint.Put64(uint64(len(index))), varint.Put32(api.Magic)))
	size := lengthBytes + len(blocks) + len(filter) + len(index) + len(end)
	return slices.Concat(varint.Put64(uint64(size)), blocks, filter, index, end)
}

// takeApart tells of which blocks, filter and index b was put together; nil
// ones, false: of none.
func takeApart(b []byte) (blocks, filter, index []byte, ok bool) {
	if len(b) < lengthBytes || varint.Get64(b) != uint64(len(b)) {
		return nil, nil, nil, false
	}
	blocks, end, ok := cut(b[lengthBytes:], endBytes)
	if !ok || varint.Get32(end[2*lengthBytes:]) != api.Magic {
		return nil, nil, nil, false
	}
	blocks, index, ok = cut(blocks, varint.Get64(end[lengthBytes:]))
	if !ok {
		return nil, nil, nil, false
	}
	blocks, filter, ok = cut(blocks, varint.Get64(end))
	if !ok {
		return nil, nil, nil, false
	}
	return blocks, filter, index, true
}

// cut tells what stands ahead of b's last size bytes, and these without their
// sum; nil, nil, false: they are too many, or have another sum.
func cut(b []byte, size uint64) ([]byte, []byte, bool) {
	// As an int the size might go round.
	if size > uint64(len(b)) {
		return nil, nil, false
	}
	middle := len(b) - int(size)
	last, ok := unseal(b[middle:])
	if !ok {
		return nil, nil, false
	}
	return b[:middle], last, true
}

// seal tells b with its sum behind it.
func seal(b []byte) []byte {
	return slices.Concat(b, varint.Put32(crc.Sum(b)))
}

// unseal tells b without its sum; nil, false: it has none, or another one.
func unseal(b []byte) ([]byte, bool) {
	middle := len(b) - sumBytes
	if middle < 0 || varint.Get32(b[middle:]) != crc.Sum(b[:middle]) {
		return nil, false
	}
	return b[:middle], true
}

// putPart makes the bytes of p in the index. Where it begins need not be told,
// as the blocks stand one behind the other.
func putPart(p part) []byte {
	return slices.Concat(varint.Text(p.last.Norm), varint.Put(uint64(p.last.Seq)), varint.Put(uint64(p.size)), varint.Put(uint64(p.count)))
}

// getParts tells the parts of an index over blocks of so many bytes together;
// nil, false: it is none of such.
func getParts(index []byte, blocks int) ([]part, bool) {
	var parts []part
	at := 0
	for len(index) > 0 {
		p, size := getPart(index, blocks-at)
		if size == 0 {
			return nil, false
		}
		p.at = at
		at += p.size
		parts, index = append(parts, p), index[size:]
	}
	return parts, len(parts) > 0 && at == blocks
}

// getPart tells the part that b begins with, of a block of at most so many bytes,
// and how many bytes of b it takes; a zero one, 0: there is none.
func getPart(b []byte, most int) (part, int) {
	norm, i := varint.GetText(b)
	seq, j := varint.Get(b[i:])
	size, k := varint.Get(b[i+j:])
	count, m := varint.Get(b[i+j+k:])
	if i == 0 || j == 0 || k == 0 || m == 0 {
		return part{}, 0
	}
	// No entry takes less than a byte. Greater numbers might go round as an int.
	if size > uint64(most) || count > size {
		return part{}, 0
	}
	last := api.Entry{Norm: norm, Seq: int64(seq)}
	return part{last: last, size: int(size), count: int(count)}, i + j + k + m
}

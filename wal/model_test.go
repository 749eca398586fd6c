package wal

import (
	"encoding/binary"
	"hash/crc32"
	"strings"

	"incipit/api"
	"incipit/norm"
)

// text makes the bytes of a text by the library's own numbers.
func text(s string) string {
	return string(binary.AppendUvarint(nil, uint64(len(s)))) + s
}

// group makes the bytes of a group by chapter 12's words, whatever it is.
func group(seq int64, ops []api.Op) string {
	b := binary.LittleEndian.AppendUint64(nil, uint64(seq))
	s := string(binary.AppendUvarint(b, uint64(len(ops))))
	for _, op := range ops {
		s += string([]byte{byte(op.Kind)}) + text(op.Spelling)
		if op.Kind == api.KPut {
			s += text(op.Value)
		}
	}
	return s
}

// piece makes a piece by chapter 11's words.
func piece(kind byte, b string) string {
	rest := string(binary.LittleEndian.AppendUint16(nil, uint16(len(b)))) + string([]byte{kind}) + b
	sum := crc32.Checksum([]byte(rest), crc32.MakeTable(crc32.Castagnoli))
	return string(binary.LittleEndian.AppendUint32(nil, sum)) + rest
}

// zeros are n bytes 0.
func zeros(n int) string {
	return strings.Repeat("\x00", n)
}

// written is what a log is by the chapters' words.
type written struct {
	bytes   string
	heads   []int // where each piece begins
	ends    []int // where each group's last piece ends
	entries []api.Entry
	upTo    []int // how many entries the groups up to each one have
}

// lay lays a record, and tells where it ends: a block at a time, each filled as
// far as it goes.
func (w *written) lay(record string) int {
	log := []byte(w.bytes)
	for first, last := true, false; !last; first = false {
		left := 256 - len(log)%256
		if left < 7 {
			log = append(log, zeros(left)...)
			left = 256
		}
		w.heads = append(w.heads, len(log))
		n := min(left-7, len(record))
		last = n == len(record)
		kind := map[[2]bool]byte{{true, true}: 1, {true, false}: 2, {false, false}: 3, {false, true}: 4}[[2]bool{first, last}]
		log = append(log, piece(kind, record[:n])...)
		record = record[n:]
	}
	w.bytes = string(log)
	return len(log)
}

// add lays a group.
func (w *written) add(seq int64, ops []api.Op) {
	w.ends = append(w.ends, w.lay(group(seq, ops)))
	for i, op := range ops {
		form, _ := norm.Text(op.Spelling)
		w.entries = append(w.entries, api.Entry{Norm: form, Seq: seq + int64(i), Kind: op.Kind, Spelling: op.Spelling, Value: op.Value})
	}
	w.upTo = append(w.upTo, len(w.entries))
}

// front tells the entries of the groups that are whole within the first n
// bytes, and how many groups these are.
func (w *written) front(n int) ([]api.Entry, int) {
	many, entries := 0, 0
	for i, end := range w.ends {
		if end <= n {
			many, entries = i+1, w.upTo[i]
		}
	}
	return w.entries[:entries], many
}

// headAt tells the head whose bytes hold the place at, and that place within
// it; -1: none does.
func (w *written) headAt(at int) (int, int) {
	for _, head := range w.heads {
		if head <= at && at < head+7 {
			return head, at - head
		}
	}
	return -1, 0
}

// isFiller tells whether the place at is of the zeros at a block's end.
func (w *written) isFiller(at int) bool {
	end := at/256*256 + 256
	for i, head := range w.heads {
		if head == end && i > 0 {
			before := w.heads[i-1]
			return at >= before+7+int(binary.LittleEndian.Uint16([]byte(w.bytes[before+4:])))
		}
	}
	return false
}

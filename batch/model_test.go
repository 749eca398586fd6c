package batch

import (
	"encoding/binary"
	"strings"
	"unicode/utf8"

	"incipit/api"
)

// text makes the bytes of a text by the library's own numbers.
func text(s string) string {
	return string(binary.AppendUvarint(nil, uint64(len(s)))) + s
}

// number makes the bytes of a group's number.
func number(seq int64) string {
	return string(binary.LittleEndian.AppendUint64(nil, uint64(seq)))
}

// count makes the bytes of how many ops there are.
func count(n int) string {
	return string(binary.AppendUvarint(nil, uint64(n)))
}

// made makes the bytes of ops by the chapter's words, whatever they are.
func made(ops []api.Op) string {
	var s strings.Builder
	for _, op := range ops {
		s.WriteString(string([]byte{byte(op.Kind)}) + text(op.Spelling))
		if op.Kind == api.KPut {
			s.WriteString(text(op.Value))
		}
	}
	return s.String()
}

// group makes the bytes of a group by the chapter's words, whatever it is.
func group(seq int64, ops []api.Op) string {
	return number(seq) + count(len(ops)) + made(ops)
}

// reading takes numbers and texts from the beginning of bytes.
type reading struct {
	rest  string
	wrong bool
}

// take takes n bytes; all that there are, where they are fewer.
func (r *reading) take(n uint64) string {
	if n > uint64(len(r.rest)) {
		r.wrong, n = true, uint64(len(r.rest))
	}
	s := r.rest[:n]
	r.rest = r.rest[n:]
	return s
}

func (r *reading) number() uint64 {
	n, err := binary.ReadUvarint(strings.NewReader(r.rest))
	if err != nil {
		r.wrong = true
		return 0
	}
	// More bytes than needed come out when the group is made anew.
	size := 1
	for size < len(r.rest) && r.rest[size-1] >= 128 {
		size++
	}
	r.take(uint64(size))
	return n
}

// decodeByWords is what Decode(b) tells by the chapter's words: the group that
// is made to just these bytes, if it is one that may be made.
func decodeByWords(b string) (int64, []api.Op, api.Errno) {
	r := &reading{rest: b}
	seq := int64(binary.LittleEndian.Uint64([]byte((r.take(8) + strings.Repeat("\x00", 8))[:8])))
	many := r.number()
	if r.wrong || many < 1 || many > 50 {
		return 0, nil, api.ErrCorrupt
	}
	var ops []api.Op
	for range many {
		kind := (r.take(1) + "?")[0]
		op := api.Op{Kind: int(kind), Spelling: r.take(r.number())}
		if kind == 1 {
			op.Value = r.take(r.number())
		}
		if r.wrong || kind > 1 || !isKey(op.Spelling) || len(op.Value) > 1<<20 {
			return 0, nil, api.ErrCorrupt
		}
		ops = append(ops, op)
	}
	if seq < 1 || seq > 1<<50 || seq+int64(many)-1 > 1<<50 || group(seq, ops) != b {
		return 0, nil, api.ErrCorrupt
	}
	return seq, ops, api.OK
}

func isKey(s string) bool {
	return len(s) >= 1 && len(s) <= 4096 && utf8.ValidString(s)
}

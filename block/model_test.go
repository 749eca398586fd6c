package block

import (
	"bytes"
	"encoding/binary"
	"fmt"
	"math/rand/v2"
	"slices"
	"strings"
)

// shareOf is how many bytes of b a has at its front, found from the longest
// front downwards.
func shareOf(a, b string) int {
	n := len(b)
	for !strings.HasPrefix(a, b[:n]) {
		n--
	}
	return n
}

// laidRow is a row by the chapter's words, whose key has the other one ahead.
func laidRow(n int, ahead string, r Row) string {
	share := 0
	if n%4 != 0 {
		share = shareOf(ahead, r.Key)
	}
	return handLaid(share, r.Key[share:], r.Value)
}

// handLaid is a row of a share, the key's other bytes and a value.
func handLaid(share int, others, value string) string {
	b := binary.AppendUvarint(nil, uint64(share))
	b = binary.AppendUvarint(b, uint64(len(others)))
	b = binary.AppendUvarint(b, uint64(len(value)))
	return string(b) + others + value
}

// ending is what stands behind the rows of a block: places, and how many.
func ending(places ...int) string {
	return endingWith(len(places), places...)
}

// endingWith is the same with another number of places than they are.
func endingWith(many int, places ...int) string {
	var b []byte
	for _, place := range append(slices.Clone(places), many) {
		b = binary.LittleEndian.AppendUint32(b, uint32(place))
	}
	return string(b)
}

// modelBytes is the block of rows, by the chapter's words.
func modelBytes(rows []Row) string {
	var b strings.Builder
	ahead := ""
	var places []int
	for n, r := range rows {
		if n%4 == 0 {
			places = append(places, b.Len())
		}
		b.WriteString(laidRow(n, ahead, r))
		ahead = r.Key
	}
	return b.String() + ending(places...)
}

// modelRead is the rows of a block: what b may be is read without a look at
// whether it is right, and laid again; it is right if that makes b.
func modelRead(b string) ([]Row, bool) {
	if len(b) < 4 {
		return nil, false
	}
	many := int64(binary.LittleEndian.Uint32([]byte(b[len(b)-4:])))
	end := int64(len(b)) - 4 - 4*many
	if end < 0 {
		return nil, false
	}
	rows, ok := looseRows(b[:end])
	if !ok || !isRising(rows) || modelBytes(rows) != b {
		return nil, false
	}
	return rows, true
}

// looseRows is the rows that b may be taken for, however they are laid.
func looseRows(b string) ([]Row, bool) {
	r := bytes.NewReader([]byte(b))
	var rows []Row
	ahead := ""
	for r.Len() > 0 {
		share, err1 := binary.ReadUvarint(r)
		others, err2 := binary.ReadUvarint(r)
		value, err3 := binary.ReadUvarint(r)
		if err1 != nil || err2 != nil || err3 != nil || share > uint64(len(ahead)) {
			return nil, false
		}
		key, ok1 := taken(r, others)
		text, ok2 := taken(r, value)
		if !ok1 || !ok2 {
			return nil, false
		}
		ahead = ahead[:share] + key
		rows = append(rows, Row{ahead, text})
	}
	return rows, true
}

// taken is the next n bytes of r.
func taken(r *bytes.Reader, n uint64) (string, bool) {
	if n > uint64(r.Len()) {
		return "", false
	}
	b := make([]byte, n)
	r.Read(b)
	return string(b), true
}

// isRising tells whether each key is above the one ahead, byte by byte.
func isRising(rows []Row) bool {
	for i := 1; i < len(rows); i++ {
		if bytes.Compare([]byte(rows[i-1].Key), []byte(rows[i].Key)) >= 0 {
			return false
		}
	}
	return true
}

// keyed is rows of keys, in order and each once, with values of a few lengths.
func keyed(keys ...string) []Row {
	keys = slices.Clone(keys)
	slices.Sort(keys)
	var rows []Row
	for i, key := range slices.Compact(keys) {
		rows = append(rows, Row{key, strings.Repeat("v", i%3) + fmt.Sprint(i)})
	}
	return rows
}

// numbered is n rows, of keys that share much.
func numbered(front string, n int) []Row {
	var keys []string
	for i := range n {
		keys = append(keys, fmt.Sprintf("%s%05d", front, 3*i))
	}
	return keyed(keys...)
}

// anyKeys is n keys of few bytes of any values.
func anyKeys(r *rand.Rand, n int) []string {
	values := []byte{0, 1, 'a', 'b', 127, 128, 254, 255}
	var keys []string
	for range n {
		b := make([]byte, r.IntN(9))
		for i := range b {
			b[i] = values[r.IntN(len(values))]
		}
		keys = append(keys, string(b))
	}
	return keys
}

// steps is keys each of which is the one ahead and a byte more.
func steps(n int) []string {
	var keys []string
	for i := range n {
		keys = append(keys, strings.Repeat("s", i))
	}
	return keys
}

// sharers is keys that share so many bytes, and no more, each with the next.
func sharers(share, n int) []string {
	var keys []string
	for i := range n {
		keys = append(keys, strings.Repeat("p", share)+string([]byte{byte(i)})+"end")
	}
	return keys
}

// valued is rows whose values have these lengths.
func valued(sizes ...int) []Row {
	rows := numbered("v", len(sizes))
	for i, size := range sizes {
		rows[i].Value = strings.Repeat(string([]byte{byte(i), 255}), size)[:size]
	}
	return rows
}

// blocks is rows of blocks of many kinds, by their names.
func blocks() map[string][]Row {
	r := rand.New(rand.NewPCG(16, 1))
	m := map[string][]Row{
		"none":           nil,
		"the empty key":  {{"", "v"}},
		"nothing at all": {{"", ""}},
		"one byte more":  keyed(steps(14)...),
		"no values":      {{"a", ""}, {"ab", ""}, {"b", ""}, {"c", ""}, {"cc", ""}},
		"any bytes":      keyed("", "\x00", "\x00\x00", "\x7f", "\x7f\xff", "\x80", "\x80\x00", "\xff", "\xff\x00", "\xff\xff"),
		"as UTF-8":       keyed("e\u0301", "e\u0323", "f", "\u1112\u1161", "\U0001f600", "\uffff", "\U0001f601"),
		"values":         valued(0, 1, 127, 128, 20000, 0, 129, 1<<14-1, 1<<14),
		"great shares":   keyed(slices.Concat(sharers(0, 3), sharers(1, 6), sharers(127, 6), sharers(128, 6), sharers(300, 6))...),
		"whole shares":   keyed(slices.Concat(longSteps(127), longSteps(128), longSteps(300))...),
		"some keys":      keyed(anyKeys(r, 60)...),
		"many keys":      keyed(anyKeys(r, 700)...),
		"hundreds":       numbered("key", 537),
		"a thousand":     numbered("key", 1029),
	}
	for _, n := range []int{1, 2, 3, 4, 5, 7, 8, 9, 12, 13, 16, 17, 100} {
		m[fmt.Sprint(n, " rows")] = numbered("k", n)
		m[fmt.Sprint(n, " that share nothing")] = keyed(lettered(n)...)
	}
	for _, share := range []int{0, 1, 127, 128, 300} {
		m[fmt.Sprint("sharers of ", share)] = keyed(sharers(share, 9)...)
	}
	return m
}

// lettered is keys of one byte each.
func lettered(n int) []string {
	var keys []string
	for i := range n {
		keys = append(keys, string([]byte{byte(2 * i)}))
	}
	return keys
}

// longSteps is keys of that many bytes and more, each the front of the next.
func longSteps(size int) []string {
	var keys []string
	for i := range 6 {
		keys = append(keys, strings.Repeat("w", size+i))
	}
	return keys
}

// built is the builder that rows were added to; false: one was refused.
func built(rows []Row) (*Builder, bool) {
	b := New()
	for _, r := range rows {
		if !b.Add(r.Key, r.Value) {
			return b, false
		}
	}
	return b, true
}

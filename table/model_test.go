package table

import (
	"bytes"
	"cmp"
	"fmt"
	"math"
	"slices"
	"strings"
	"testing"

	"incipit/api"
	"incipit/ikey"
)

// put is an entry of a key that is written.
func put(norm string, seq int64, value string) api.Entry {
	return api.Entry{Norm: norm, Seq: seq, Kind: api.KPut, Spelling: norm + "'", Value: value}
}

// del is an entry of a key that is deleted.
func del(norm string, seq int64) api.Entry {
	return api.Entry{Norm: norm, Seq: seq, Kind: api.KDel, Spelling: norm + "\""}
}

// numbered are n entries of n Norms, with values of some lengths.
func numbered(n int) []api.Entry {
	var l []api.Entry
	for i := range n {
		l = append(l, put(fmt.Sprintf("k%04d", 2*i), int64(i+1), strings.Repeat("v", i%23)))
	}
	return l
}

// versions are n entries of one Norm, each third one a deletion, with gaps
// between their numbers.
func versions(norm string, n int) []api.Entry {
	var l []api.Entry
	for i := range n {
		seq := int64(3*(n-i) + 1)
		if i%3 == 1 {
			l = append(l, del(norm, seq))
		} else {
			l = append(l, put(norm, seq, fmt.Sprint("value ", i)))
		}
	}
	return l
}

// mixed are Norms with one version up to many, one behind the other.
func mixed() []api.Entry {
	var l []api.Entry
	for i := range 18 {
		l = append(l, versions(fmt.Sprintf("n%02d", i), 1+i*i%29)...)
	}
	return l
}

// bytesNorms are entries whose Norms are hard to keep apart and in order by
// their bytes.
func bytesNorms() []api.Entry {
	norms := []string{"", "\x00", "\x00\x00", "\x00\x00\x00", "\x00\x01", "\x00\xff", "\x01", "\x01\x00", "a", "a\x00", "a\x00\x00b", "a\x01", "a\xff", "a\xff\xff", "b", "e\u0301", "\u1100\u1161", "\xfe\xff", "\xff", "\xff\x00", "\xff\xff"}
	var l []api.Entry
	for i, norm := range norms {
		l = append(l, put(norm, api.MaxSeq, "x"), del(norm, 1<<49), put(norm, int64(300+i), ""), put(norm, 255, "\x00"), del(norm, 1))
	}
	return l
}

// great are entries of which each takes a block of its own.
func great() []api.Entry {
	return []api.Entry{
		put("a", 5, strings.Repeat("v", 20000)),
		put("a", 4, strings.Repeat("\x00", 5000)),
		del("a", 3),
		put("b"+strings.Repeat("n", api.MaxKey), 9, ""),
		put("b"+strings.Repeat("n", api.MaxKey)+"n", api.MaxSeq, strings.Repeat("w", 300)),
		{Norm: "c", Seq: 1, Kind: api.KPut, Spelling: strings.Repeat("s", 7000)},
		{Norm: "d", Seq: 1, Kind: api.KDel, Spelling: strings.Repeat("t", 250)},
	}
}

// zeros are entries whose long Norms are of zero bytes alone, and nothing else.
func zeros() []api.Entry {
	var l []api.Entry
	for i := range 9 {
		l = append(l, api.Entry{Norm: strings.Repeat("\x00", 500*i), Seq: api.MaxSeq, Kind: api.KPut})
	}
	return l
}

// lists are entries of which there is a table, by what they are.
func lists() map[string][]api.Entry {
	return map[string][]api.Entry{
		"one entry":         {put("key", 7, "value")},
		"one deletion":      {del("key", api.MaxSeq)},
		"one empty entry":   {{Seq: 1, Kind: api.KPut}},
		"an empty deletion": {{Seq: 1, Kind: api.KDel}},
		"empty ones":        {{Seq: 3, Kind: api.KPut}, {Seq: 2}, {Seq: 1, Kind: api.KPut}},
		"two Norms":         {put("a", 1, ""), put("b", 1, "")},
		"one Norm twice":    {put("a", 2, ""), put("a", 1, "")},
		"20 entries":        numbered(20),
		"300 entries":       numbered(300),
		"120 versions":      versions("norm", 120),
		"empty Norm's":      versions("", 60),
		"mixed":             mixed(),
		"bytes":             bytesNorms(),
		"great":             great(),
		"zeros":             zeros(),
	}
}

// small tells of lists those whose tables have few bytes.
func small() map[string][]api.Entry {
	l := lists()
	for _, name := range []string{"300 entries", "great", "zeros", "mixed", "bytes"} {
		delete(l, name)
	}
	l["few mixed"] = mixed()[:40]
	l["few bytes"] = bytesNorms()[5:35]
	return l
}

// built is the table of entries of which there is one.
func built(t *testing.T, what string, l []api.Entry) []byte {
	t.Helper()
	b, err := Build(l)
	if err != api.OK {
		t.Fatalf("P17.1: %s: Build answers %d", what, err)
	}
	return b
}

// opened is the same table, open.
func opened(t *testing.T, what string, l []api.Entry) *Table {
	t.Helper()
	x, err := Open(built(t, what, l))
	if err != api.OK || x == nil {
		t.Fatalf("P17.2: %s: Open answers %d", what, err)
	}
	return x
}

// mostBytes is how many bytes a table of l may have.
func mostBytes(l []api.Entry) int {
	most := 100
	for _, e := range l {
		most += 2*len(e.Norm) + 2*len(e.Spelling) + 2*len(e.Value) + 60
	}
	return most
}

// modelRight tells by the chapter's words whether there is a table of l, each
// entry held against all behind it.
func modelRight(l []api.Entry) bool {
	for i, a := range l {
		for _, b := range l[i+1:] {
			order := cmp.Or(bytes.Compare([]byte(a.Norm), []byte(b.Norm)), -cmp.Compare(a.Seq, b.Seq))
			if order >= 0 {
				return false
			}
		}
		none := a.Kind != 0 && a.Kind != 1
		if none || a.Seq < 1 || a.Seq > 1125899906842624 || a.Kind == 0 && a.Value != "" {
			return false
		}
	}
	return len(l) > 0
}

// modelGet is the first of l with that Norm and a Seq not above seq.
func modelGet(l []api.Entry, norm string, seq int64) (api.Entry, bool) {
	for _, e := range l {
		if e.Norm == norm && e.Seq <= seq {
			return e, true
		}
	}
	return api.Entry{}, false
}

// modelFrom are those of l whose Norm is not below norm.
func modelFrom(l []api.Entry, norm string) []api.Entry {
	var from []api.Entry
	for _, e := range l {
		if bytes.Compare([]byte(e.Norm), []byte(norm)) >= 0 {
			from = append(from, e)
		}
	}
	return from
}

// askedNorms are the Norms of l, and such as lie beside them, between them,
// ahead of them and behind them.
func askedNorms(l []api.Entry) []string {
	asked := []string{"", "\x00", "A", "k0001", "zz", "\xff\xff\xff", strings.Repeat("\xff", 5000)}
	for i, e := range l {
		if i > 0 && e.Norm == l[i-1].Norm {
			continue
		}
		asked = append(asked, e.Norm, e.Norm+"\x00", e.Norm+"\xff")
		if n := len(e.Norm); n > 0 {
			last := e.Norm[n-1]
			asked = append(asked, e.Norm[:n-1], e.Norm[:n-1]+string([]byte{last - 1}), e.Norm[:n-1]+string([]byte{last + 1}))
		}
	}
	return asked
}

// askedSeqs are the numbers of norm's entries in l, and such as lie beside them
// and at the edges.
func askedSeqs(l []api.Entry, norm string) []int64 {
	asked := []int64{math.MinInt64, -1, 0, 1, 2, api.MaxSeq - 1, api.MaxSeq, api.MaxSeq + 1, math.MaxInt64}
	for _, e := range l {
		if e.Norm == norm {
			asked = append(asked, e.Seq-1, e.Seq, e.Seq+1)
		}
	}
	return asked
}

// wantGets fails unless Get answers for each of norms as the model and as
// ikey.Find do.
func wantGets(t *testing.T, what string, x *Table, l []api.Entry, norms []string) {
	t.Helper()
	for _, norm := range norms {
		for _, seq := range askedSeqs(l, norm) {
			e, ok, err := x.Get(norm, seq)
			want, there := modelGet(l, norm, seq)
			if e != want || ok != there || err != api.OK {
				t.Fatalf("P17.2: %s: Get(%.40q, %d): %.60q at %d, %v, %d", what, norm, seq, e.Norm, e.Seq, ok, err)
			}
			if want, there = ikey.Find(l, norm, seq); e != want || ok != there {
				t.Fatalf("P17.2: %s: Get(%.40q, %d) is not as ikey.Find", what, norm, seq)
			}
		}
	}
}

// wantFroms fails unless From answers for each of norms as the model does.
func wantFroms(t *testing.T, what string, x *Table, l []api.Entry, norms []string) {
	t.Helper()
	for _, norm := range norms {
		from, err := x.From(norm)
		if want := modelFrom(l, norm); err != api.OK || !slices.Equal(from, want) {
			t.Fatalf("P17.2: %s: From(%.40q): %d entries, not %d, %d", what, norm, len(from), len(want), err)
		}
	}
}

// wantWhole fails unless Len, Blocks and All answer for a table of l.
func wantWhole(t *testing.T, what string, x *Table, l []api.Entry) {
	t.Helper()
	if x.Len() != len(l) || x.Blocks() < 1 {
		t.Fatalf("P17.2: %s: Len %d of %d entries, %d blocks", what, x.Len(), len(l), x.Blocks())
	}
	if all, err := x.All(); err != api.OK || !slices.Equal(all, l) {
		t.Fatalf("P17.2: %s: All: %d entries, not %d, or others, %d", what, len(all), len(l), err)
	}
}

// wantTable fails unless x answers as a table of l.
func wantTable(t *testing.T, what string, x *Table, l []api.Entry) {
	t.Helper()
	wantWhole(t, what, x, l)
	norms := askedNorms(l)
	wantGets(t, what, x, l, norms)
	wantFroms(t, what, x, l, norms)
}

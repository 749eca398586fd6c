package merge

import (
	"cmp"
	"fmt"
	"math"
	"math/rand/v2"
	"slices"
	"strings"
	"testing"

	"incipit/api"
)

// entry makes an entry whose spelling and value tell its mark.
func entry(norm string, seq int64, kind int, mark string) api.Entry {
	return api.Entry{Norm: norm, Seq: seq, Kind: kind, Spelling: norm + "'" + mark, Value: "v" + mark}
}

// shown tells an entry, whose texts may be any bytes.
func shown(e api.Entry) string {
	return fmt.Sprintf("{%.20q %d %d %.20q %.20q}", e.Norm, e.Seq, e.Kind, e.Spelling, e.Value)
}

// compare puts entries in order by the chapters' words.
func compare(a, b api.Entry) int {
	return cmp.Or(strings.Compare(a.Norm, b.Norm), cmp.Compare(b.Seq, a.Seq), cmp.Compare(b.Kind, a.Kind))
}

// placed is an entry, and the place of the list that it comes from.
type placed struct {
	entry api.Entry
	place int
}

// model puts sorted lists together one entry by one: each comes behind all that
// are there and are not to be told behind it.
func model(lists [][]api.Entry) []placed {
	var all []placed
	for place, l := range lists {
		for _, e := range l {
			i := slices.IndexFunc(all, func(p placed) bool { return compare(e, p.entry) < 0 })
			if i < 0 {
				i = len(all)
			}
			all = slices.Insert(all, i, placed{e, place})
		}
	}
	return all
}

// plain tells the entries of the model.
func plain(lists [][]api.Entry) []api.Entry {
	var l []api.Entry
	for _, p := range model(lists) {
		l = append(l, p.entry)
	}
	return l
}

// ahead stands ahead of all others: if a source's answer is taken that must not
// be, this is told first.
func ahead() api.Entry {
	return api.Entry{Seq: math.MaxInt64, Kind: math.MaxInt, Spelling: "ahead", Value: "ahead"}
}

// counted tells a list and counts how often it is asked. It tells an entry
// beside its false, too, and if it is asked again it says true.
type counted struct {
	l     []api.Entry
	asked int
}

func (c *counted) Next() (api.Entry, bool) {
	c.asked++
	if c.asked <= len(c.l) {
		return c.l[c.asked-1], true
	}
	return ahead(), c.asked != len(c.l)+1
}

// countedOf makes a source of each list, and tells these as what counts, too;
// of a nil list it is nil.
func countedOf(lists [][]api.Entry) ([]Source, []*counted) {
	sources, counts := make([]Source, len(lists)), make([]*counted, len(lists))
	for i, l := range lists {
		if l != nil {
			counts[i] = &counted{l: l}
			sources[i] = counts[i]
		}
	}
	return sources, counts
}

// wantAsked fails unless each source was asked as often as asked says.
func wantAsked(t *testing.T, what string, counts []*counted, asked []int) {
	t.Helper()
	for i, c := range counts {
		if c != nil && c.asked != asked[i] {
			t.Fatalf("P18.1: %s: the source %d was asked %d times, not %d", what, i, c.asked, asked[i])
		}
	}
}

// wantNext fails unless Next tells that entry.
func wantNext(t *testing.T, what string, m Source, want api.Entry) {
	t.Helper()
	if e, ok := m.Next(); !ok || e != want {
		t.Fatalf("P18.1: %s: %s, %v, not %s", what, shown(e), ok, shown(want))
	}
}

// wantEnd fails unless Next tells none, again and again.
func wantEnd(t *testing.T, what string, m Source) {
	t.Helper()
	for k := range 4 {
		if e, ok := m.Next(); ok || e != (api.Entry{}) {
			t.Fatalf("P18.1: %s: at the end, %d: %s, %v", what, k, shown(e), ok)
		}
	}
}

// wantTold fails unless Next tells those entries, and then none.
func wantTold(t *testing.T, what string, m Source, want []api.Entry) {
	t.Helper()
	for k, e := range want {
		wantNext(t, fmt.Sprint(what, ", at ", k), m, e)
	}
	wantEnd(t, what, m)
}

// wantEntries fails unless a list has those entries.
func wantEntries(t *testing.T, what string, got, want []api.Entry) {
	t.Helper()
	for k := range min(len(got), len(want)) {
		if got[k] != want[k] {
			t.Fatalf("P18.1: %s: at %d %s, not %s", what, k, shown(got[k]), shown(want[k]))
		}
	}
	if len(got) != len(want) {
		t.Fatalf("P18.1: %s: %d entries, not %d", what, len(got), len(want))
	}
}

// wantMerged fails unless New and Next tell what the model does of those lists,
// and ask their sources as often as they should, and All tells the same.
func wantMerged(t *testing.T, what string, lists [][]api.Entry) {
	t.Helper()
	sources, counts := countedOf(lists)
	m := New(sources)
	asked := slices.Repeat([]int{1}, len(lists))
	wantAsked(t, what+", New", counts, asked)
	for k, p := range model(lists) {
		at := fmt.Sprint(what, ", at ", k)
		wantNext(t, at, m, p.entry)
		asked[p.place]++
		wantAsked(t, at, counts, asked)
	}
	wantEnd(t, what, m)
	wantAsked(t, what+", at the end", counts, asked)
	wantEntries(t, what+", All", All(lists), plain(lists))
}

// someNorms are forms, rising by bytes; texts that are no UTF-8, too.
func someNorms() []string {
	return []string{"", "\x00", "10", "9", "B", "a", "a\x00", "aa", "a\u0301", "b", "e\u0301", "\u1112\u1161\u11ab", "\U0001f600", "\xff", "\xff\xff"}
}

// someSeqs are numbers, falling.
func someSeqs() []int64 {
	return []int64{math.MaxInt64, math.MaxInt64 - 1, api.MaxSeq + 1, api.MaxSeq, 1 << 32, 9, 2, 1, 0, -1, -1 << 32, math.MinInt64 + 1, math.MinInt64}
}

// someKinds are kinds, falling, the two that there are and others.
func someKinds() []int {
	return []int{math.MaxInt, 1 << 32, 2, api.KPut, api.KDel, -1, math.MinInt}
}

// manyEntries are entries in order, each Less than the next.
func manyEntries() []api.Entry {
	var l []api.Entry
	for _, norm := range someNorms() {
		for _, seq := range someSeqs() {
			for _, kind := range someKinds() {
				l = append(l, entry(norm, seq, kind, fmt.Sprint(len(l))))
			}
		}
	}
	return l
}

// parted parts entries in order into so many lists, each by a number of r.
func parted(r *rand.Rand, l []api.Entry, count int) [][]api.Entry {
	lists := make([][]api.Entry, count)
	for _, e := range l {
		i := r.IntN(count)
		lists[i] = append(lists[i], e)
	}
	return lists
}

// fewAlike makes sorted lists in which many entries are equal but for their
// marks; some lists are nil, some are empty.
func fewAlike(r *rand.Rand, count, most int) [][]api.Entry {
	norms, mark := []string{"", "a", "a", "a\x00", "b"}, 0
	lists := make([][]api.Entry, count)
	for i := range lists {
		if r.IntN(6) == 0 {
			continue
		}
		lists[i] = []api.Entry{}
		for range r.IntN(most + 1) {
			mark++
			lists[i] = append(lists[i], entry(norms[r.IntN(len(norms))], int64(r.IntN(3)), r.IntN(2), fmt.Sprint(mark)))
		}
		slices.SortStableFunc(lists[i], compare)
	}
	return lists
}

package skip

import (
	"fmt"
	"math"
	"math/rand/v2"
	"slices"
	"strings"
	"testing"
	"time"

	"incipit/api"
	"incipit/ikey"
)

// someNorms are forms, rising by bytes; texts that are no UTF-8, too.
func someNorms() []string {
	return []string{
		"", "\x00", "10", "9", "B", "a", "a\x00", "aa", "a\u0301", "b", "e\u0301",
		strings.Repeat("k", 5000), strings.Repeat("k", 5000) + "\x00",
		"\u1112\u1161\u11ab", "\U0001f600", "\xff", "\xff\xff",
	}
}

// someSeqs are numbers, falling.
func someSeqs() []int64 {
	return []int64{
		math.MaxInt64, math.MaxInt64 - 1, api.MaxSeq + 1, api.MaxSeq, 1 << 32, 1<<31 + 1,
		9, 2, 1, 0, -1, -2, -1 << 32, math.MinInt64 + 1, math.MinInt64,
	}
}

// someKinds are the two kinds that there are, and others.
func someKinds() []int {
	return []int{api.KPut, api.KDel, 2, -1, math.MaxInt, math.MinInt, 1 << 32}
}

// manyEntries are entries in order, of all kinds in turn.
func manyEntries() []api.Entry {
	var l []api.Entry
	kinds := someKinds()
	for _, norm := range someNorms() {
		for _, seq := range someSeqs() {
			l = append(l, entry(norm, seq, kinds[len(l)%len(kinds)]))
		}
	}
	return l
}

// shuffled tells entries in another order, by a number always the same one.
func shuffled(entries []api.Entry, n uint64) []api.Entry {
	l, r := slices.Clone(entries), rand.New(rand.NewPCG(n, 14))
	r.Shuffle(len(l), func(i, j int) { l[i], l[j] = l[j], l[i] })
	return l
}

// abc are few entries: norms of one number and of several.
func abc() []api.Entry {
	return []api.Entry{
		entry("b", 9, api.KPut), entry("b", 6, api.KDel), entry("b", -2, api.KPut),
		entry("d", 5, api.KDel), entry("f", 7, api.KPut), entry("f", 1, api.KPut),
	}
}

func TestNewIsEmpty(t *testing.T) {
	for _, heights := range someHeights() {
		l := New(heights)
		wantList(t, l, nil)
		for _, norm := range someNorms() {
			for _, seq := range someSeqs() {
				wantGet(t, l, nil, norm, seq)
			}
		}
		wantList(t, l, nil)
	}
}

func TestListUnderManyHeights(t *testing.T) {
	for name, heights := range someHeights() {
		t.Run(name, func(t *testing.T) {
			l, m := New(heights), model{}
			for i := range 60 {
				e := entry(fmt.Sprint("k", i*7%13), int64(i*11%60), i%2)
				wantPut(t, l, &m, e)
				wantPut(t, l, &m, e)
				wantList(t, l, m)
			}
		})
	}
}

func TestHeightsAreNeitherKeptNorChanged(t *testing.T) {
	for name, heights := range someHeights() {
		room := append(slices.Clone(heights), make([]int, 40)...)
		handed, kept := room[:len(heights)], slices.Clone(room)
		l, m := New(handed), model{}
		wild := []int{math.MinInt, 99, math.MaxInt, 0, 8, -1, 1, 9}
		for i, e := range shuffled(abc(), 3) {
			wantPut(t, l, &m, e)
			if !slices.Equal(room, kept) {
				t.Fatalf("P0.3: %s: the heights are changed", name)
			}
			for k := range room {
				room[k] = wild[(i+k)%len(wild)]
			}
			copy(kept, room)
			wantList(t, l, m)
		}
	}
}

func TestListsOfOneHeightsSideBySide(t *testing.T) {
	heights := []int{4, 1, 8, 2}
	one, other := New(heights), New(heights)
	var ones, others model
	for k, e := range shuffled(manyEntries(), 5)[:80] {
		if k%3 == 0 {
			wantPut(t, one, &ones, e)
		} else {
			wantPut(t, other, &others, e)
		}
	}
	wantList(t, one, ones)
	wantList(t, other, others)
}

func TestPutIntoEachPlace(t *testing.T) {
	for _, heights := range someHeights() {
		for _, order := range [][]string{
			{"c"}, {"c", "a"}, {"c", "e"}, {"c", "e", "d"}, {"c", "a", "b"}, {"a", "b", "c", "d"},
			{"d", "c", "b", "a"}, {"a", "d", "b", "c"}, {"a", "d", "c", "b"}, {"b", "a", "d", "c"},
		} {
			l, m := New(heights), model{}
			for k, norm := range order {
				wantPut(t, l, &m, entry(norm, int64(k), k%2))
				wantList(t, l, m)
			}
		}
	}
}

func TestPutOfOneNormGoesByFallingSeq(t *testing.T) {
	for k := range uint64(8) {
		var entries []api.Entry
		for n, seq := range someSeqs() {
			entries = append(entries, entry("a", seq, n%2))
		}
		l, m := filled(t, []int{2, 8, 1, 3}, shuffled(entries, k)...)
		wantList(t, l, m)
		wantAlike(t, l.All(), entries)
	}
}

func TestPutOfOneSeqGoesByRisingNorm(t *testing.T) {
	for k := range uint64(8) {
		for _, seq := range []int64{math.MinInt64, -1, 0, 7, math.MaxInt64} {
			var entries []api.Entry
			for n, norm := range someNorms() {
				entries = append(entries, entry(norm, seq, n%2))
			}
			l, m := filled(t, []int{2, 8, 1, 3}, shuffled(entries, k)...)
			wantList(t, l, m)
			wantAlike(t, l.All(), entries)
		}
	}
}

// others are entries with e's Norm and Seq, alike and not alike in all else.
func others(e api.Entry) []api.Entry {
	l := []api.Entry{e}
	for _, kind := range someKinds() {
		l = append(l, api.Entry{Norm: e.Norm, Seq: e.Seq, Kind: kind, Spelling: e.Spelling, Value: e.Value})
		l = append(l, api.Entry{Norm: e.Norm, Seq: e.Seq, Kind: kind})
	}
	spelled, valued := e, e
	spelled.Spelling += "x"
	valued.Value += "x"
	return append(l, spelled, valued)
}

func TestPutOfANormAndSeqThatIsThere(t *testing.T) {
	for _, heights := range [][]int{nil, {8, 8, 8, 8, 8, 8, 8, 8, 8}, {1, 5, 2, 8, 1, 3, 8, 1, 2}} {
		l, m := filled(t, heights, shuffled(abc(), 2)...)
		for place, e := range m {
			for _, other := range others(e) {
				i := standing(l, m, place)
				if l.Put(other) {
					t.Fatalf("P14.1: Put(%s) though %s is there", shown(other), shown(e))
				}
				wantAt(t, "a Put that is refused", i, m, place)
				wantList(t, l, m)
				i.Next()
				wantAt(t, "a Put that is refused, Next", i, m, place+1)
				i = standing(l, m, place)
				i.Prev()
				wantAt(t, "a Put that is refused, Prev", i, m, place-1)
			}
		}
		// A Put that is refused changes nothing for those that come.
		for _, e := range []api.Entry{entry("a", 1, 1), entry("b", 7, 0), entry("g", 1, 1)} {
			wantPut(t, l, &m, e)
			wantList(t, l, m)
		}
	}
}

func TestPutOfKindsThatAreNone(t *testing.T) {
	for _, first := range someKinds() {
		for _, second := range someKinds() {
			l, m := filled(t, []int{2, 1}, entry("a", 5, first))
			wantPut(t, l, &m, entry("a", 5, second))
			wantPut(t, l, &m, entry("a", 4, second))
			wantPut(t, l, &m, entry("a", 6, second))
			wantPut(t, l, &m, entry("", 5, second))
			wantList(t, l, m)
			if e, ok := l.Get("a", 5); !ok || e != entry("a", 5, first) {
				t.Errorf("P14.1: Get: %s, %v", shown(e), ok)
			}
		}
	}
}

func TestPutOfZeroEntries(t *testing.T) {
	l, m := filled(t, []int{3}, api.Entry{}, api.Entry{Seq: 1}, api.Entry{Seq: -1}, api.Entry{Norm: "\x00"})
	wantPut(t, l, &m, api.Entry{})
	wantPut(t, l, &m, api.Entry{Kind: 1, Value: "x"})
	wantList(t, l, m)
	// A zero entry may be there.
	i := l.Iter()
	i.First()
	i.Next()
	if e, ok := l.Get("", 0); !ok || e != (api.Entry{}) || !i.OK() || i.Entry() != (api.Entry{}) {
		t.Errorf("P14.1: a zero entry: %s, %v, %v", shown(e), ok, i.OK())
	}
}

func TestManyOrdersUnderManyHeights(t *testing.T) {
	sorted := manyEntries()
	falling := slices.Clone(sorted)
	slices.Reverse(falling)
	orders := [][]api.Entry{sorted, falling, shuffled(sorted, 1), shuffled(sorted, 2), shuffled(sorted, 3)}
	for name, heights := range someHeights() {
		for k, order := range orders {
			l := New(heights)
			for _, e := range order {
				if !l.Put(e) {
					t.Fatalf("P14.1: %s, order %d: Put(%s) is refused", name, k, shown(e))
				}
			}
			wantList(t, l, sorted)
		}
	}
}

func TestLongList(t *testing.T) {
	const many = 20000
	heights := make([]int, many)
	for k := range heights {
		heights[k] = natural(k)
	}
	l := New(heights)
	var want model
	for k := range many {
		// Every number up to many is met, each once.
		n := k * 7919 % many
		want = append(want, entry(fmt.Sprintf("%05d", k/4), int64(4-k%4), k%2))
		if !l.Put(entry(fmt.Sprintf("%05d", n/4), int64(4-n%4), n%2)) {
			t.Fatalf("P14.1: Put %d", k)
		}
	}
	wantAlike(t, l.All(), want)
	if l.Len() != many || l.Size() != want.size() {
		t.Errorf("P14.1: Len %d, Size %d", l.Len(), l.Size())
	}
	wantWays(t, l, want)
	for k := range many {
		if e, ok := l.Get(want[k].Norm, want[k].Seq); !ok || e != want[k] {
			t.Fatalf("P14.1: Get %d: %s, %v", k, shown(e), ok)
		}
	}
}

// timeOfGets is the least time of several that a thousand Gets take in a long
// list under those heights.
func timeOfGets(heights []int) time.Duration {
	const many = 4000
	l := New(heights)
	for k := range many {
		l.Put(entry(fmt.Sprint(k*1777%many), 1, api.KPut))
	}
	least := time.Duration(math.MaxInt64)
	for range 5 {
		start := time.Now()
		for k := range 1000 {
			l.Get(fmt.Sprint(k*1777%many), 1)
		}
		least = min(least, time.Since(start))
	}
	return least
}

// No answer hangs on the towers; that they are there is felt in the time alone,
// which they make some fifty times less here.
func TestTowersShortenTheWay(t *testing.T) {
	heights := make([]int, 4000)
	for k := range heights {
		heights[k] = natural(k)
	}
	if flat, high := timeOfGets(nil), timeOfGets(heights); flat < 3*high {
		t.Errorf("P14.1: %v with towers, %v without", high, flat)
	}
}

func TestGetAboveAtBetweenAndBelow(t *testing.T) {
	for _, heights := range someHeights() {
		l, m := filled(t, heights, shuffled(abc(), 4)...)
		for _, row := range []struct {
			norm  string
			seq   int64
			place int
		}{
			{"b", math.MaxInt64, 0}, {"b", 10, 0}, {"b", 9, 0}, {"b", 8, 1}, {"b", 6, 1}, {"b", 5, 2},
			{"b", 0, 2}, {"b", -2, 2}, {"b", -3, -1}, {"b", math.MinInt64, -1}, {"d", 9, 3}, {"d", 5, 3},
			{"d", 4, -1}, {"d", -1, -1}, {"f", 7, 4}, {"f", 6, 5}, {"f", 1, 5}, {"f", 0, -1},
			{"", 9, -1}, {"a", 9, -1}, {"b\x00", 9, -1}, {"c", 9, -1}, {"e", 9, -1}, {"g", 9, -1}, {"\xff", 9, -1},
		} {
			got, ok := l.Get(row.norm, row.seq)
			if want, wantOK := m.at(row.place); got != want || ok != wantOK {
				t.Errorf("P14.1: Get(%q, %d): %s, %v, not %s", row.norm, row.seq, shown(got), ok, shown(want))
			}
		}
	}
}

func TestGetIsAsFind(t *testing.T) {
	norms := append(someNorms(), "A", "ab", "c", "z", "\u00e1", "\xfe", "\xff\xff\xff")
	seqs := append(someSeqs(), 3, -3, 1000, -1000, 1<<33)
	for k, many := range []int{0, 1, 2, 3, 20, 100, len(manyEntries())} {
		l, m := filled(t, []int{2, 9, -1, 4}, shuffled(manyEntries(), uint64(k))[:many]...)
		for _, norm := range norms {
			for _, seq := range seqs {
				wantGet(t, l, m, norm, seq)
				got, ok := l.Get(norm, seq)
				if want, wantOK := ikey.Find(l.All(), norm, seq); got != want || ok != wantOK {
					t.Fatalf("P14.1: Get(%.20q, %d): %s, %v, not %s", norm, seq, shown(got), ok, shown(want))
				}
			}
		}
	}
}

func TestSizeOfEachText(t *testing.T) {
	for _, row := range []struct {
		e    api.Entry
		size int
	}{
		{api.Entry{}, 32},
		{api.Entry{Seq: math.MaxInt64, Kind: math.MaxInt}, 32},
		{api.Entry{Norm: "abc"}, 35},
		{api.Entry{Spelling: "abcde"}, 37},
		{api.Entry{Value: "abcdefg"}, 39},
		{api.Entry{Norm: "e\u0301", Spelling: "\u00e9", Value: "\x00\xff"}, 39},
		{api.Entry{Norm: "a", Spelling: strings.Repeat("s", 4096), Value: strings.Repeat("v", 1<<20)}, 1 + 4096 + 1<<20 + 32},
	} {
		l := New(nil)
		l.Put(row.e)
		if l.Size() != row.size {
			t.Errorf("P14.1: Size: %d, not %d", l.Size(), row.size)
		}
		longer := row.e
		longer.Spelling, longer.Value = longer.Spelling+"more", longer.Value+"more"
		if l.Put(longer) || l.Size() != row.size || l.Len() != 1 {
			t.Errorf("P14.1: Size: %d behind a Put that is refused, not %d", l.Size(), row.size)
		}
		longer.Seq--
		if !l.Put(longer) || l.Size() != 2*row.size+8 || l.Len() != 2 {
			t.Errorf("P14.1: Size of two: %d, not %d", l.Size(), 2*row.size+8)
		}
	}
}

func TestAllIsNewMemory(t *testing.T) {
	l, m := filled(t, []int{2, 1, 3}, shuffled(abc(), 6)...)
	for range 3 {
		all, other := l.All(), l.All()
		room := all[:cap(all)]
		for k := range room {
			room[k] = entry("other", int64(k), 7)
		}
		_ = append(other[:2], entry("z", 1, 1))
		wantList(t, l, m)
		wantPut(t, l, &m, entry("c", int64(m.size()), 1))
		wantList(t, l, m)
	}
	// What All told stays as it was when more is put.
	before, kept := l.All(), slices.Clone(m)
	for k := range int64(20) {
		wantPut(t, l, &m, entry("a", k, 1))
	}
	if !slices.Equal(before, kept) {
		t.Error("P0.3: a later Put changes what All told")
	}
}

func TestNil(t *testing.T) {
	var l *List
	for _, e := range []api.Entry{{}, entry("a", 1, api.KPut)} {
		if l.Put(e) {
			t.Error("P14.1: Put into a nil list")
		}
		if got, ok := l.Get(e.Norm, e.Seq); ok || got != (api.Entry{}) {
			t.Errorf("P14.1: Get of a nil list: %s, %v", shown(got), ok)
		}
	}
	if l.Len() != 0 || l.Size() != 0 || len(l.All()) != 0 {
		t.Errorf("P14.1: a nil list: %d, %d, %d", l.Len(), l.Size(), len(l.All()))
	}
	for what, i := range map[string]*Iter{"a nil iterator": nil, "of a nil list": l.Iter()} {
		wantNothing(t, what, i)
		for name, move := range map[string]func(){
			"First": i.First, "Last": i.Last, "Next": i.Next, "Prev": i.Prev,
			"Seek": func() { i.Seek("a", 1) }, "Seek to the first": func() { i.Seek("", math.MaxInt64) },
		} {
			move()
			wantNothing(t, what+", "+name, i)
		}
	}
}

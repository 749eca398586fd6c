package merge

import (
	"fmt"
	"math/rand/v2"
	"slices"
	"testing"

	"incipit/api"
)

func TestNoSources(t *testing.T) {
	for name, sources := range map[string][]Source{
		"nil": nil, "an empty list": {}, "spare room": make([]Source, 0, 3),
		"one nil source": {nil}, "nil sources": {nil, nil, nil},
	} {
		m := New(sources)
		if m == nil {
			t.Fatalf("P18.1: %s: New made none", name)
		}
		wantEnd(t, name, m)
	}
}

func TestSourcesWithoutEntries(t *testing.T) {
	wantMerged(t, "one", [][]api.Entry{{}})
	wantMerged(t, "two", [][]api.Entry{{}, {}})
	wantMerged(t, "some of them nil", [][]api.Entry{nil, {}, nil, nil, {}, {}, nil})
	wantTold(t, "empty slices", New([]Source{Slice(nil), nil, Slice([]api.Entry{})}), nil)
}

func TestOneSource(t *testing.T) {
	many := manyEntries()
	for n := range 12 {
		l := slices.Clone(many[n*90 : n*90+n])
		wantMerged(t, fmt.Sprint(n, " entries"), [][]api.Entry{l})
		wantMerged(t, fmt.Sprint(n, " entries among none"), [][]api.Entry{nil, {}, l, nil, {}})
	}
	wantMerged(t, "many entries", [][]api.Entry{many})
	wantMerged(t, "a zero entry", [][]api.Entry{{{}}})
	wantMerged(t, "a zero entry twice, and in each", [][]api.Entry{{{}, {}}, {{}}, nil, {{}}})
}

func TestTwoSourcesInAllWays(t *testing.T) {
	// These differ, each from the next, in Norm, in Seq or in Kind alone.
	l := []api.Entry{
		entry("a", 9, 1, "1"), entry("a", 9, 0, "2"), entry("a", 7, 0, "3"), entry("a", -1, 1, "4"), entry("a", -1, 0, "5"),
		entry("a\x00", -1, 0, "6"), entry("b", 9, 1, "7"), entry("b", 8, 1, "8"), entry("b", 8, -1, "9"),
	}
	for ways := range 1 << len(l) {
		lists := [][]api.Entry{{}, {}}
		for k, e := range l {
			lists[ways>>k&1] = append(lists[ways>>k&1], e)
		}
		wantMerged(t, fmt.Sprint("the way ", ways), lists)
	}
}

func TestThreeSourcesInAllWays(t *testing.T) {
	// Some of these are equal, but not in their marks.
	l := []api.Entry{
		entry("a", 9, 1, "1"), entry("a", 9, 1, "2"), entry("a", 9, 1, "3"), entry("a", 9, 0, "4"),
		entry("b", 8, 0, "5"), entry("b", 7, 0, "6"), entry("b", 7, 0, "7"),
	}
	for ways := range 2187 {
		lists := make([][]api.Entry, 3)
		for _, e := range l {
			lists[ways%3] = append(lists[ways%3], e)
			ways /= 3
		}
		wantMerged(t, fmt.Sprint("the way ", ways), lists)
	}
}

func TestSourcesOneBehindTheOther(t *testing.T) {
	l := manyEntries()
	for _, ends := range [][]int{{0, 1, 2, 3}, {0, 40, 41, 90, 91}, {0, 5, 5, 10, 10, 15}, {0, 1, 100}, {0, 99, 100}} {
		var lists [][]api.Entry
		for k := 1; k < len(ends); k++ {
			lists = append(lists, l[ends[k-1]:ends[k]])
		}
		wantMerged(t, fmt.Sprint("rising ", ends), lists)
		slices.Reverse(lists)
		wantMerged(t, fmt.Sprint("falling ", ends), lists)
	}
}

func TestManySources(t *testing.T) {
	r, l := rand.New(rand.NewPCG(18, 1)), manyEntries()
	for _, count := range []int{2, 3, 4, 5, 7, 8, 9, 16, 31, 100, 1000, 3000} {
		lists := parted(r, l, count)
		wantMerged(t, fmt.Sprint(count, " sources"), lists)
		for i := range lists {
			if i%3 == 1 {
				lists[i] = nil
			}
		}
		wantMerged(t, fmt.Sprint(count, " sources, some nil"), lists)
	}
}

func TestSourcesOfUnlikeLengths(t *testing.T) {
	r, l := rand.New(rand.NewPCG(18, 2)), manyEntries()
	for round := range 200 {
		lists := make([][]api.Entry, 5)
		for _, e := range l[:300] {
			// Each list gets half as many as the one ahead of it.
			i := 0
			for i < 4 && r.IntN(2) == 0 {
				i++
			}
			lists[i] = append(lists[i], e)
		}
		r.Shuffle(len(lists), func(i, j int) { lists[i], lists[j] = lists[j], lists[i] })
		wantMerged(t, fmt.Sprint("round ", round), lists)
	}
}

func TestEqualEntries(t *testing.T) {
	e := func(mark string) api.Entry { return entry("k", 5, 1, mark) }
	first, last := entry("k", 6, 0, "f"), entry("k", 5, 0, "l")
	wantMerged(t, "in two", [][]api.Entry{{e("1")}, {e("2")}})
	wantMerged(t, "in two, marks falling", [][]api.Entry{{e("2")}, {e("1")}})
	wantMerged(t, "more in the first", [][]api.Entry{{e("3"), e("1"), e("4")}, {e("2")}})
	wantMerged(t, "more in the last", [][]api.Entry{{e("2")}, {e("3"), e("1"), e("4")}})
	wantMerged(t, "more in each", [][]api.Entry{{e("9"), e("8")}, nil, {e("7"), e("6")}, {}, {e("5"), e("4")}})
	wantMerged(t, "behind another one", [][]api.Entry{{first, e("1")}, {e("2"), last}, {first, e("3"), last}})
	wantMerged(t, "alike in all", [][]api.Entry{{e("1")}, {e("1"), e("1")}, {e("1")}})
	for count := range 40 {
		lists := make([][]api.Entry, count)
		for i := range lists {
			for k := range 1 + i%3 {
				lists[i] = append(lists[i], e(fmt.Sprint(count-i, ".", 3-k)))
			}
		}
		wantMerged(t, fmt.Sprint("in ", count), lists)
	}
}

func TestEqualInNormOrSeqOrKindAlone(t *testing.T) {
	// The earlier source does not count where entries are not equal in all three.
	wantMerged(t, "Norm", [][]api.Entry{{entry("b", 5, 1, "1")}, {entry("a", 5, 1, "2")}})
	wantMerged(t, "Norm by bytes", [][]api.Entry{{entry("\x80", 5, 1, "1")}, {entry("\x7f", 5, 1, "2")}})
	wantMerged(t, "Seq", [][]api.Entry{{entry("a", 5, 1, "1")}, {entry("a", 6, 1, "2")}})
	wantMerged(t, "Seq ahead of Kind", [][]api.Entry{{entry("a", 5, 1, "1")}, {entry("a", 6, 0, "2")}})
	wantMerged(t, "Seqs far apart", [][]api.Entry{{entry("a", -1<<63, 1, "1")}, {entry("a", 1<<63-1, 1, "2")}})
	wantMerged(t, "Kind", [][]api.Entry{{entry("a", 5, 0, "1")}, {entry("a", 5, 1, "2")}})
	wantMerged(t, "Kinds far apart", [][]api.Entry{{entry("a", 5, -1<<63, "1")}, {entry("a", 5, 1<<63-1, "2")}})
}

func TestMixedSourcesAsTheModel(t *testing.T) {
	r := rand.New(rand.NewPCG(18, 3))
	for round := range 6000 {
		wantMerged(t, fmt.Sprint("round ", round), fewAlike(r, r.IntN(9), 1+r.IntN(8)))
	}
	for round := range 40 {
		wantMerged(t, fmt.Sprint("many, round ", round), fewAlike(r, 60, 12))
	}
}

func TestEntriesAreToldWhole(t *testing.T) {
	l := []api.Entry{
		{}, {Value: "v"}, {Spelling: "\xff\x00", Value: "\x00"},
		{Norm: "e\u0301", Seq: 7, Kind: api.KPut, Spelling: "\u00e9", Value: string(make([]byte, 1<<16))},
		{Norm: "e\u0301", Seq: 6, Kind: api.KDel, Spelling: "e\u0301", Value: "of a deletion"},
		{Norm: "e\u0301", Seq: -6, Kind: 77, Spelling: "", Value: ""},
		{Norm: "\xff", Seq: -6, Kind: -77, Spelling: "\u20ac", Value: "\u20ac"},
	}
	for ways := range 1 << len(l) {
		lists := make([][]api.Entry, 2)
		for k, e := range l {
			lists[ways>>k&1] = append(lists[ways>>k&1], e)
		}
		slices.SortStableFunc(lists[0], compare)
		slices.SortStableFunc(lists[1], compare)
		wantMerged(t, fmt.Sprint("the way ", ways), lists)
	}
}

func TestMergedThatNewNeverMade(t *testing.T) {
	var none *Merged
	var zero Merged
	for name, m := range map[string]*Merged{"nil": none, "zero": &zero, "new": new(Merged)} {
		wantEnd(t, name, m)
	}
	l := []api.Entry{entry("a", 1, 1, "1"), entry("b", 2, 1, "2")}
	wantTold(t, "as sources", New([]Source{none, &zero, Slice(l), new(Merged)}), l)
}

func TestListOfSourcesIsNeitherChangedNorKept(t *testing.T) {
	r := rand.New(rand.NewPCG(18, 4))
	for round := range 300 {
		lists := fewAlike(r, 1+r.IntN(8), 6)
		sources, counts := countedOf(lists)
		spare := &counted{l: []api.Entry{ahead()}}
		room := append(slices.Clone(sources), spare, nil)
		before := slices.Clone(room)
		m := New(room[:len(sources)])
		for k, e := range plain(lists) {
			if !slices.Equal(room, before) {
				t.Fatalf("P0.3: round %d, at %d: the list is changed", round, k)
			}
			for i := range room {
				room[i] = []Source{nil, spare, &counted{l: []api.Entry{ahead()}}, m}[r.IntN(4)]
			}
			copy(before, room)
			wantNext(t, fmt.Sprint("round ", round, ", at ", k), m, e)
		}
		wantEnd(t, fmt.Sprint("round ", round), m)
		for i, c := range counts {
			if c != nil && c.asked != len(c.l)+1 {
				t.Fatalf("P18.1: round %d: the source %d was asked %d times", round, i, c.asked)
			}
		}
		if spare.asked != 0 {
			t.Fatalf("P0.3: round %d: a source in the spare room was asked", round)
		}
	}
}

func TestTwoMergedAtOnce(t *testing.T) {
	r := rand.New(rand.NewPCG(18, 5))
	for round := range 500 {
		at := fmt.Sprint("round ", round)
		all := [2][][]api.Entry{fewAlike(r, 5, 8), fewAlike(r, 7, 5)}
		var merged [2]*Merged
		var rest [2][]api.Entry
		for k := range merged {
			sources, _ := countedOf(all[k])
			merged[k], rest[k] = New(sources), plain(all[k])
		}
		for len(rest[0])+len(rest[1]) > 0 {
			k := r.IntN(2)
			if len(rest[k]) == 0 {
				wantEnd(t, at, merged[k])
				continue
			}
			wantNext(t, at, merged[k], rest[k][0])
			rest[k] = rest[k][1:]
		}
		wantEnd(t, at, merged[0])
		wantEnd(t, at, merged[1])
	}
}

func TestMergedOfMerged(t *testing.T) {
	r := rand.New(rand.NewPCG(18, 6))
	for round := range 300 {
		lists := fewAlike(r, 6, 8)
		sources, _ := countedOf(lists)
		m := New([]Source{New(sources[:2]), sources[2], New(sources[3:])})
		wantTold(t, fmt.Sprint("round ", round), m, plain(lists))
	}
}

package drop

import (
	"math"
	"slices"
	"testing"

	"incipit/api"
)

func TestSeenOfNone(t *testing.T) {
	for _, l := range [][]api.Entry{nil, {}, list("a9 a5")[:0]} {
		for _, seq := range []int64{math.MinInt64, -1, 0, 1, math.MaxInt64} {
			if n := len(Seen(l, seq)); n != 0 {
				t.Errorf("P23.1: %d entries are seen of none", n)
			}
		}
	}
}

func TestSeen(t *testing.T) {
	for _, x := range []struct {
		what, l string
		seq     int64
		want    string
	}{
		{"below all", "a9 a5 b7", 4, ""},
		{"0", "a9 a5 b7", 0, ""},
		{"below 0", "a9 a5 b7", -1, ""},
		{"far below 0", "a9 a5 b7", math.MinInt64, ""},
		{"just at the oldest", "a9 a5 b7", 5, "a5"},
		{"between", "a9 a5 b7", 6, "a5"},
		{"at another one's", "a9 a5 b7", 7, "a5 b7"},
		{"just below the newest", "a9 a5 b7", 8, "a5 b7"},
		{"at the newest", "a9 a5 b7", 9, "a9 b7"},
		{"above all", "a9 a5 b7", 10, "a9 b7"},
		{"far above all", "a9 a5 b7", math.MaxInt64, "a9 b7"},
		{"a KPut alone", "a5", 5, "a5"},
		{"a KPut alone, just above", "a5", 6, "a5"},
		{"a KPut alone, just below", "a5", 4, ""},
		{"a KDel alone", "a5-", 5, ""},
		{"a KDel alone, just below", "a5-", 4, ""},
		{"a KDel ahead of a KPut", "a9- a5", 9, ""},
		{"a KDel ahead of a KPut, above", "a9- a5", 50, ""},
		{"a KDel ahead of a KPut, below it", "a9- a5", 8, "a5"},
		{"a KDel ahead of many", "a9- a5 a4 a3-", 9, ""},
		{"a KPut ahead of a KDel", "a9 a5-", 9, "a9"},
		{"a KPut ahead of a KDel, below it", "a9 a5-", 8, ""},
		{"a KDel between", "a9 a5- a3", 5, ""},
		{"a KDel between, above it", "a9 a5- a3", 8, ""},
		{"a KDel between, below it", "a9 a5- a3", 4, "a3"},
		{"several, in order", "a2 b9 b4 c6- c3 d1- e7 e5 f8-", 9, "a2 b9 e7"},
		{"several, earlier", "a2 b9 b4 c6- c3 d1- e7 e5 f8-", 5, "a2 b4 c3 e5"},
		{"several, still earlier", "a2 b9 b4 c6- c3 d1- e7 e5 f8-", 3, "a2 c3"},
		{"a KDel is none of the next Norm's", "a9- aa5 b3", 9, "aa5 b3"},
		{"a KPut is none of the next Norm's", "a9 aa5 b3-", 9, "a9 aa5"},
		{"one of one Norm, among others", "a9 b9 c9 c2 d9 e9", 5, "c2"},
		{"Seqs below 0", "a-2 a-5 b-1-", -2, "a-2"},
		{"Seqs below 0, earlier", "a-2 a-5 b-1-", -4, "a-5"},
		{"Seqs below 0, above them", "a-2 a-5 b-1- b-3", 0, "a-2"},
		{"both kinds of one Seq", "a5 a5- b5- c5", 5, "a5 c5"},
	} {
		if got := told(wantSeen(t, list(x.l), x.seq)); got != x.want {
			t.Errorf("P23.1: %s: Seen of %s by %d: %s, not %s", x.what, x.l, x.seq, got, x.want)
		}
	}
}

func TestSeenOfOtherKinds(t *testing.T) {
	// What is no KPut is not seen, and neither is what stands behind it.
	for _, kind := range []int{math.MinInt, -1, 2, 257, 1<<32 + 1, math.MaxInt} {
		l := list("a9 a5 b3")
		l[0].Kind = kind
		if got := told(wantSeen(t, l, 9)); got != "b3" {
			t.Errorf("P23.1: of the kind %d: %s", kind, got)
		}
		if got := told(wantSeen(t, l, 8)); got != "a5 b3" {
			t.Errorf("P23.1: of the kind %d, by 8: %s", kind, got)
		}
	}
}

func TestSeenOfListsThatAreNotSorted(t *testing.T) {
	// The first one counts, wherever it stands.
	for _, x := range []struct {
		l    string
		seq  int64
		want string
	}{
		{"a5 a9", 9, "a5"}, {"a5- a9", 9, ""}, {"b5 a9 b3 a2", 9, "b5 a9"}, {"b5 a9 b3 a2", 4, "b3 a2"},
		{"b5 a9- b3- a2", 9, "b5"}, {"a9 b8 a9 b8", 9, "a9 b8"}, {"a9- b8 a9 b8-", 9, "b8"},
	} {
		if got := told(wantSeen(t, list(x.l), x.seq)); got != x.want {
			t.Errorf("P23.1: Seen of %s by %d: %s, not %s", x.l, x.seq, got, x.want)
		}
	}
}

func TestSeenTellsEntriesAsTheyWentIn(t *testing.T) {
	l := []api.Entry{
		{Norm: "", Seq: 3, Kind: api.KPut},
		{Norm: "a", Seq: 9, Kind: api.KPut, Spelling: "\x00\xff", Value: "one"},
		{Norm: "a", Seq: 8, Kind: api.KPut, Spelling: "A", Value: "two"},
		{Norm: "e\u0301", Seq: 7, Kind: api.KPut, Spelling: "\u00e9", Value: ""},
		{Norm: "\u00e9", Seq: 6, Kind: api.KPut, Spelling: "", Value: "\u00e9"},
	}
	slices.SortFunc(l, compare)
	want := slices.DeleteFunc(slices.Clone(l), func(e api.Entry) bool { return e.Spelling == "A" })
	if got := wantSeen(t, l, 9); !slices.Equal(got, want) || !slices.Equal(Entries(l, nil, true), want) {
		t.Errorf("P23.1: %s, not %s", shown(got), shown(want))
	}
}

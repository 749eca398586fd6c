package drop

import (
	"fmt"
	"math"
	"slices"
	"testing"

	"incipit/api"
)

// neverMore are numbers of snaps that hide as much as none does from entries with
// Seqs from 1 to 99.
var neverMore = [][]int64{nil, {}, {0}, {-1}, {math.MinInt64}, {99}, {100}, {math.MaxInt64}, {-7, 100, 0, -7}}

func TestEntriesOfNone(t *testing.T) {
	for _, l := range [][]api.Entry{nil, {}, list("a9 a5")[:0]} {
		for _, snaps := range neverMore {
			if n := len(Entries(l, snaps, false)) + len(Entries(l, snaps, true)); n != 0 {
				t.Errorf("P23.1: %d entries of none", n)
			}
		}
	}
}

func TestEntriesOfOne(t *testing.T) {
	for _, snaps := range append(neverMore, []int64{5}, []int64{4}, []int64{6}, []int64{6, 4, 5}) {
		wantEntries(t, "a KPut", "a5", snaps, false, "a5")
		wantEntries(t, "a KPut", "a5", snaps, true, "a5")
		wantEntries(t, "a KDel", "a5-", snaps, false, "a5-")
	}
}

func TestEntriesWithoutSnapsInTheWay(t *testing.T) {
	for _, snaps := range neverMore {
		for _, x := range []struct{ what, l, left string }{
			{"two", "a9 a5", "a9"},
			{"two, one behind the other", "a6 a5", "a6"},
			{"a KDel hides a KPut", "a9- a5", "a9-"},
			{"a KPut hides a KDel", "a9 a5-", "a9"},
			{"a KDel hides a KDel", "a9- a5-", "a9-"},
			{"many, each hides the next", "a9 a8 a7- a5 a3- a2 a1", "a9"},
			{"many of several", "a9 a4 a2 b8- b7 c1 d6 d5- d3", "a9 b8- c1 d6"},
			{"one ahead of another's", "a3 b9 b5", "a3 b9"},
			{"one behind another's", "a9 a5 b4", "a9 b4"},
			{"between others'", "a9 b8 b2 c7", "a9 b8 c7"},
			{"all of others", "a9 b8 c7 d6- e5- f4", "a9 b8 c7 d6- e5- f4"},
			{"rising from one to the next", "a1 b2 c3 d4-", "a1 b2 c3 d4-"},
			{"one Seq of others", "a5 aa5 b5-", "a5 aa5 b5-"},
			{"a Norm that begins another", "a9 a3 aa8 aa2 ab1", "a9 aa8 ab1"},
		} {
			wantEntries(t, x.what, x.l, snaps, false, x.left)
		}
	}
}

func TestEntriesByOneSnap(t *testing.T) {
	for _, x := range []struct {
		what string
		snap int64
		left string
	}{
		{"below all", 1, "b9 b3"},
		{"just below the Seq", 4, "b9 b3"},
		{"just at it", 5, "b9 b5 b3"},
		{"just above it", 6, "b9 b5 b3"},
		{"between", 7, "b9 b5 b3"},
		{"just below the earlier one's", 8, "b9 b5 b3"},
		{"just at the earlier one's", 9, "b9 b3"},
		{"just above that", 10, "b9 b3"},
		{"above all", 1 << 50, "b9 b3"},
		{"below 0", -1, "b9 b3"},
	} {
		// The last one is seen by a number of its own.
		for _, bottom := range []bool{false, true} {
			wantEntries(t, x.what, "b9 b5 b3", []int64{x.snap, 3}, bottom, x.left)
			wantEntries(t, x.what+", others beside", "a8 b9 b5 b3 c7", []int64{3, x.snap}, bottom, "a8 "+x.left+" c7")
		}
		l, want := "b9 b5", "b9"
		if x.snap >= 5 && x.snap < 9 {
			want = l
		}
		wantEntries(t, x.what, l, []int64{x.snap}, false, want)
		wantEntries(t, x.what+", of KDels", "b9- b5", []int64{x.snap, x.snap}, false, "b9-"+want[2:])
	}
}

func TestEntriesBySeveralSnaps(t *testing.T) {
	l := "a9 a7- a6 a4 a2- a1 b8 b5- b3"
	for _, x := range []struct {
		what  string
		snaps []int64
		left  string
	}{
		{"none", nil, "a9 b8"},
		{"one that sees all", []int64{9}, "a9 b8"},
		{"one for both", []int64{5}, "a9 a4 b8 b5-"},
		{"one below one Norm", []int64{1}, "a9 a1 b8"},
		{"two between one and the next", []int64{5, 4}, "a9 a4 b8 b5- b3"},
		{"two apart", []int64{6, 3}, "a9 a6 a2- b8 b5- b3"},
		{"three", []int64{7, 2, 1}, "a9 a7- a2- a1 b8 b5-"},
		{"below and above all", []int64{0, 77, -3}, "a9 b8"},
		{"one for each", []int64{1, 2, 4, 6, 7}, "a9 a7- a6 a4 a2- a1 b8 b5- b3"},
		{"one just above each", []int64{2, 3, 5, 8}, "a9 a7- a4 a2- b8 b5- b3"},
	} {
		permuted(x.snaps, func(order []int64) {
			wantEntries(t, x.what, l, order, false, x.left)
			wantEntries(t, x.what+", twice", l, append(slices.Clone(order), order...), false, x.left)
		})
	}
}

func TestEntriesHiddenByOneThatWent(t *testing.T) {
	// The one between goes; what it would hide the first one hides as well.
	wantEntries(t, "three", "a9 a5 a3", nil, false, "a9")
	wantEntries(t, "the last is kept", "a9 a5 a3", []int64{3}, false, "a9 a3")
	wantEntries(t, "the last is kept by one just below the one between", "a9 a5 a3", []int64{4}, false, "a9 a3")
	wantEntries(t, "the one between is kept", "a9 a5 a3", []int64{5}, false, "a9 a5")
	wantEntries(t, "two between", "a9 a7 a5- a3", []int64{3, 4}, false, "a9 a3")
	wantEntries(t, "two between, a KDel ahead", "a9- a7 a5- a3 a2", []int64{4}, false, "a9- a3")
}

func TestEntriesOfOneSeq(t *testing.T) {
	// Of two of one Seq neither has the greater one.
	wantEntries(t, "a KPut and a KDel", "a5 a5-", nil, false, "a5 a5-")
	wantEntries(t, "an earlier one hides both", "a9 a5 a5-", nil, false, "a9")
	wantEntries(t, "they are seen", "a9 a5 a5- a3", []int64{5}, false, "a9 a5 a5-")
	wantEntries(t, "both hide", "a5 a5- a3 a3-", []int64{5, 2}, false, "a5 a5-")
	wantEntries(t, "both stand behind what stays", "a5 a5- a3 a3-", []int64{3}, false, "a5 a5- a3 a3-")
}

func TestEntriesLeavesTheFirstOfEachNorm(t *testing.T) {
	norms := []string{"", "\x00", "a", "a\x00", "aa", "b", "e\u0301", "\u00e9", "\uff21", "\U00010000", "\x80", "\xff"}
	slices.Sort(norms)
	for _, seqs := range [][]int64{{9, 8, 7, 6}, {1, 2, 3, 4}, {5, 5, 5, 5}, {3, -3, math.MaxInt64, math.MinInt64}} {
		var l []api.Entry
		for i, norm := range norms {
			l = append(l, entry(norm, seqs[i%4], i%3%2, fmt.Sprint(i)))
		}
		for _, snaps := range append(neverMore, []int64{5, 3}, []int64{7}) {
			if left := wantLeft(t, l, snaps, false); !slices.Equal(left, l) {
				t.Errorf("P23.1: of %s by %v is left %s", shown(told(l)), snaps, shown(told(left)))
			}
		}
	}
}

func TestEntriesLeavesWhatIsFound(t *testing.T) {
	// Of Seqs that all differ just those are left that a number of snaps finds,
	// or the greatest number.
	seqs := []int64{1, 2, 4, 5, 7}
	for n := range 1 << len(seqs) {
		var l []api.Entry
		for i, seq := range subset(seqs, n) {
			l = append([]api.Entry{entry("a", seq, i%2, fmt.Sprint(seq))}, l...)
		}
		for m := range 1 << 9 {
			snaps := subset([]int64{0, 1, 2, 3, 4, 5, 6, 7, 8}, m)
			var found []api.Entry
			for _, seq := range append(snaps, math.MaxInt64) {
				i := slices.IndexFunc(l, func(e api.Entry) bool { return e.Seq <= seq })
				if i >= 0 && !slices.Contains(found, l[i]) {
					found = append(found, l[i])
				}
			}
			slices.SortFunc(found, compare)
			if left := Entries(l, snaps, false); !slices.Equal(left, found) {
				t.Fatalf("P23.1: of %s by %v is left %s, not %s", told(l), snaps, told(left), told(found))
			}
		}
	}
}

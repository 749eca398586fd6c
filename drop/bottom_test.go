package drop

import (
	"math"
	"testing"
)

func TestBottomOfADelAlone(t *testing.T) {
	for _, x := range []struct {
		what  string
		snaps []int64
		left  string
	}{
		{"none", nil, ""},
		{"none below", []int64{9, 7, 1 << 50}, ""},
		{"just at it", []int64{5}, ""},
		{"just above", []int64{6}, ""},
		{"just below", []int64{4}, "b5-"},
		{"one below among others", []int64{9, 5, 3, 6}, "b5-"},
		{"below 0", []int64{-1}, "b5-"},
		{"far below", []int64{math.MinInt64}, "b5-"},
		{"0", []int64{0}, "b5-"},
	} {
		permuted(x.snaps, func(snaps []int64) {
			wantEntries(t, x.what, "b5-", snaps, true, x.left)
			wantEntries(t, x.what, "b5-", snaps, false, "b5-")
			one, all := "a1", "a1 c1"
			if x.left != "" {
				one, all = "a1 b5-", "a1 b5- c1"
			}
			wantEntries(t, x.what+", the last one", "a1 b5-", snaps, true, one)
			wantEntries(t, x.what+", others beside", "a1 b5- c1", snaps, true, all)
		})
	}
}

func TestBottomOfTheNewestDel(t *testing.T) {
	// Once all older ones went, nothing is left to hide.
	wantEntries(t, "it hid all", "a9- a5 a3", nil, true, "")
	wantEntries(t, "it hid all, not at the bottom", "a9- a5 a3", nil, false, "a9-")
	wantEntries(t, "it hid all, just at a number", "a9- a5 a3", []int64{9}, true, "")
	wantEntries(t, "it hid all, above one that sees nothing", "a9- a5 a3", []int64{2}, true, "a9-")
	wantEntries(t, "one is left", "a9- a5 a3", []int64{6}, true, "a9- a5")
	wantEntries(t, "the oldest is left", "a9- a5 a3", []int64{3}, true, "a9- a3")
	wantEntries(t, "both are left", "a9- a5 a3", []int64{8, 4}, true, "a9- a5 a3")
	wantEntries(t, "others beside", "a2 b9- b5 b3 c7", nil, true, "a2 c7")
	wantEntries(t, "the same Norms' KPuts are others'", "a9- aa5 b3-", nil, true, "aa5")
}

func TestBottomOfTheOldestDel(t *testing.T) {
	wantEntries(t, "it is hidden", "a9 a5 a3-", nil, true, "a9")
	wantEntries(t, "it is seen by one at it", "a9 a5 a3-", []int64{3}, true, "a9")
	wantEntries(t, "it is seen by one above it", "a9 a5 a3-", []int64{4}, true, "a9")
	wantEntries(t, "it is seen, not at the bottom", "a9 a5 a3-", []int64{4}, false, "a9 a3-")
	wantEntries(t, "one below it", "a9 a5 a3-", []int64{3, 2}, true, "a9 a3-")
	wantEntries(t, "one below it, from which it is hidden", "a9 a5 a3-", []int64{2}, true, "a9")
	wantEntries(t, "all are seen", "a9 a5 a3-", []int64{3, 5, 9}, true, "a9 a5")
	wantEntries(t, "others behind", "a9 a5 a3- b8 b2-", []int64{4}, true, "a9 b8")
}

func TestBottomOfADelInTheMiddle(t *testing.T) {
	wantEntries(t, "hidden", "a9 a5- a3", nil, true, "a9")
	wantEntries(t, "seen, the older one went", "a9 a5- a3", []int64{5}, true, "a9")
	wantEntries(t, "seen from just ahead of the newest", "a9 a5- a3", []int64{8}, true, "a9")
	wantEntries(t, "seen, not at the bottom", "a9 a5- a3", []int64{5}, false, "a9 a5-")
	wantEntries(t, "seen, a KPut is left below", "a9 a5- a3", []int64{5, 3}, true, "a9 a5- a3")
	wantEntries(t, "seen, a KPut is left just below", "a9 a5- a3", []int64{5, 4}, true, "a9 a5- a3")
	wantEntries(t, "seen, the KPut went, one is below all", "a9 a5- a3", []int64{5, 2}, true, "a9 a5-")
	wantEntries(t, "hidden, the KPut is left", "a9 a5- a3", []int64{3}, true, "a9 a3")
}

func TestBottomOfDelsOneBehindTheOther(t *testing.T) {
	wantEntries(t, "two", "a9- a5-", nil, true, "")
	wantEntries(t, "two, the older is seen", "a9- a5-", []int64{5}, true, "a9-")
	wantEntries(t, "two, the older is seen and kept", "a9- a5-", []int64{5, 4}, true, "a9- a5-")
	wantEntries(t, "two, one far below", "a9- a5-", []int64{1}, true, "a9-")
	wantEntries(t, "three, all seen", "a9- a5- a3-", []int64{9, 5, 3}, true, "a9- a5-")
	wantEntries(t, "three, two seen", "a9- a5- a3-", []int64{9, 5}, true, "a9-")
	wantEntries(t, "three, one seen", "a9- a5- a3-", []int64{9}, true, "")
	wantEntries(t, "three above a KPut", "a9- a5- a3- a2", nil, true, "")
	wantEntries(t, "three above a KPut that is seen", "a9- a5- a3- a2", []int64{2}, true, "a9- a2")
	wantEntries(t, "three, one Norm behind another", "a9- b5- c3-", nil, true, "")
	wantEntries(t, "a number between others'", "a9- b5- c3-", []int64{5}, true, "a9-")
}

func TestBottomNeverDropsAPut(t *testing.T) {
	for _, snaps := range append(neverMore, []int64{4}, []int64{5}, []int64{8}, []int64{5, 4, 3, 2, 1, 0}) {
		wantEntries(t, "alone", "a5", snaps, true, "a5")
		wantEntries(t, "many", "a5 b9 c1", snaps, true, "a5 b9 c1")
	}
	wantEntries(t, "the oldest", "a9- a5", []int64{5}, true, "a9- a5")
	wantEntries(t, "the oldest, one below", "a9- a5", []int64{5, 1}, true, "a9- a5")
	wantEntries(t, "the newest", "a9 a5-", []int64{5}, true, "a9")
	wantEntries(t, "of one Seq with a KDel", "a5 a5-", nil, true, "a5")
	wantEntries(t, "of one Seq with a KDel, one below", "a5 a5-", []int64{4}, true, "a5 a5-")
}

func TestBottomDropsNoOtherKind(t *testing.T) {
	for _, kind := range []int{math.MinInt, -1, 1, 2, 256, 1 << 32, math.MaxInt} {
		l := list("a9 a5 b7")
		l[1].Kind, l[2].Kind = kind, kind
		if left := wantLeft(t, l, []int64{5}, true); len(left) != 3 {
			t.Errorf("P23.1: of the kind %d is left %s", kind, told(left))
		}
	}
}

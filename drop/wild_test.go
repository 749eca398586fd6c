package drop

import (
	"fmt"
	"math"
	"slices"
	"testing"

	"incipit/api"
)

// wantAmong fails unless all of some stand in l in that order.
func wantAmong(t *testing.T, what string, some, l []api.Entry) {
	t.Helper()
	i := 0
	for _, e := range some {
		for i < len(l) && l[i] != e {
			i++
		}
		if i == len(l) {
			t.Fatalf("P23.1: %s: %s are not among %s, in order", what, shown(told(some)), shown(told(l)))
		}
		i++
	}
}

func TestListsThatAreNotSorted(t *testing.T) {
	norms := []string{"", "a", "b", "\xff"}
	for seed := range uint64(4000) {
		d := newDrawing(seed)
		var l []api.Entry
		for i := range d.IntN(12) {
			e := entry(norms[d.IntN(len(norms))], d.any(someSeqs()), int(d.any(someKinds())), fmt.Sprint(i))
			l = append(l, e)
			if d.IntN(4) == 0 {
				l = append(l, e, sized("a", d.any(someSeqs()), 40+d.IntN(1600)))
			}
		}
		was, snaps := slices.Clone(l), d.snaps(someSeqs())
		for _, bottom := range []bool{false, true} {
			left := Entries(l, snaps, bottom)
			wantAmong(t, "not sorted", left, l)
			if again := Entries(l, snaps, bottom); !slices.Equal(left, again) {
				t.Fatalf("P0.5: of %s is left %s, then %s", shown(told(l)), shown(told(left)), shown(told(again)))
			}
		}
		wantSeen(t, l, d.any(someSeqs()))
		wantCut(t, "not sorted", l)
		if !slices.Equal(l, was) {
			t.Fatalf("P0.3: %s is changed", shown(told(was)))
		}
	}
}

func TestNumbersOfAnySize(t *testing.T) {
	seqs := someSeqs()
	slices.Reverse(seqs)
	var l []api.Entry
	for i, seq := range seqs {
		l = append(l, entry("a", seq, i%3%2, fmt.Sprint(i)))
	}
	for _, one := range seqs {
		for _, two := range seqs {
			for _, bottom := range []bool{false, true} {
				wantLeft(t, l, []int64{one, two}, bottom)
				// All that is between two Seqs, or just beside one.
				wantLeft(t, []api.Entry{entry("a", max(one, two), api.KDel, "1"), entry("b", min(one, two), api.KDel, "2")}, seqs, bottom)
			}
		}
		wantSeen(t, l, one)
	}
	least := entry("a", math.MinInt64, api.KDel, "1")
	if left := wantLeft(t, []api.Entry{least}, seqs, true); len(left) != 0 {
		t.Errorf("P23.1: %s is left, and no number is below it", told(left))
	}
	greatest := entry("a", math.MaxInt64, api.KPut, "0")
	if left := wantLeft(t, []api.Entry{greatest, least}, []int64{math.MaxInt64}, false); len(left) != 1 {
		t.Errorf("P23.1: %s are left", told(left))
	}
	if left := wantLeft(t, []api.Entry{greatest, least}, []int64{math.MinInt64}, false); len(left) != 2 {
		t.Errorf("P23.1: %s is left", told(left))
	}
}

func TestManyNumbersOfSnaps(t *testing.T) {
	var snaps []int64
	for i := range int64(3000) {
		snaps = append(snaps, i*i%3001-1500)
	}
	for _, text := range []string{"", "a1", "a1-", "a9 a8 a7- a5 a3- a2 a1", "a-3 a-1400- b1500 b-1501-", "a5- b5-"} {
		l := list(text)
		slices.SortFunc(l, compare)
		wantLeft(t, l, snaps, false)
		wantLeft(t, l, snaps, true)
	}
}

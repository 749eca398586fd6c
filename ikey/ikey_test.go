package ikey

import (
	"fmt"
	"math"
	"slices"
	"strings"
	"testing"

	"incipit/api"
)

// entry makes an entry of the three fields that give its place.
func entry(norm string, seq int64, kind int) api.Entry {
	return api.Entry{Norm: norm, Seq: seq, Kind: kind, Spelling: norm + "'", Value: fmt.Sprint("v", seq)}
}

// someNorms are forms, rising; forms by bytes, and texts that are no UTF-8.
func someNorms() []string {
	return []string{
		"", "\x00", "10", "9", "B", "a", "a\x00", "aa", "a\u0301", "b", "e", "e\u0301",
		strings.Repeat("k", 5000), strings.Repeat("k", 5000) + "\x00", "\u1112\u1161\u11ab",
		"\U0001f600", "\xff", "\xff\xff",
	}
}

// someSeqs are numbers, falling.
func someSeqs() []int64 {
	return []int64{
		math.MaxInt64, math.MaxInt64 - 1, api.MaxSeq + 1, api.MaxSeq, 1<<32 + 1, 1 << 32,
		1<<31 + 1, 10, 9, 2, 1, 0, -1, -2, -1 << 31, -1 << 32, math.MinInt64 + 1, math.MinInt64,
	}
}

// someKinds are kinds, falling: the two that there are, and others.
func someKinds() []int {
	return []int{math.MaxInt, 1 << 32, 2, api.KPut, api.KDel, -1, -1 << 32, math.MinInt}
}

// manyEntries are entries in order.
func manyEntries() []api.Entry {
	var l []api.Entry
	for _, norm := range someNorms() {
		for _, seq := range someSeqs() {
			for _, kind := range someKinds() {
				l = append(l, entry(norm, seq, kind))
			}
		}
	}
	return l
}

// wantAhead fails unless a stands Less ahead of b, and b not ahead of a.
func wantAhead(t *testing.T, a, b api.Entry) {
	t.Helper()
	if !Less(a, b) || Less(b, a) {
		t.Errorf("P7.1: Less of %.60v and %.60v: %v, %v", a, b, Less(a, b), Less(b, a))
	}
}

func TestLessWhereTheNormAloneDiffers(t *testing.T) {
	norms := someNorms()
	for i, lesser := range norms {
		for _, greater := range norms[i+1:] {
			wantAhead(t, entry(lesser, 5, api.KPut), entry(greater, 5, api.KPut))
			wantAhead(t, entry(lesser, 5, api.KDel), entry(greater, 5, api.KDel))
		}
	}
}

func TestLessWhereTheSeqAloneDiffers(t *testing.T) {
	seqs := someSeqs()
	for i, greater := range seqs {
		for _, lesser := range seqs[i+1:] {
			wantAhead(t, entry("a", greater, api.KPut), entry("a", lesser, api.KPut))
			wantAhead(t, entry("", greater, api.KDel), entry("", lesser, api.KDel))
		}
	}
}

func TestLessWhereTheKindAloneDiffers(t *testing.T) {
	kinds := someKinds()
	for i, greater := range kinds {
		for _, lesser := range kinds[i+1:] {
			wantAhead(t, entry("a", 5, greater), entry("a", 5, lesser))
			wantAhead(t, entry("", -5, greater), entry("", -5, lesser))
		}
	}
}

func TestLessGoesByTheNormFirstThenTheSeq(t *testing.T) {
	wantAhead(t, entry("a", 1, api.KDel), entry("b", 9, api.KPut))
	wantAhead(t, entry("a", math.MinInt64, math.MinInt), entry("b", math.MaxInt64, math.MaxInt))
	wantAhead(t, entry("a", 9, api.KDel), entry("a", 8, api.KPut))
	wantAhead(t, entry("a", 9, math.MinInt), entry("a", 8, math.MaxInt))
	wantAhead(t, entry("aa", 1, api.KDel), entry("b", 1, api.KPut))
}

func TestLessWhereTheEntriesAreAlike(t *testing.T) {
	for _, e := range manyEntries() {
		if Less(e, e) {
			t.Errorf("P7.1: %.60v stands ahead of itself", e)
		}
	}
	if Less(api.Entry{}, api.Entry{}) {
		t.Error("P7.1: a zero entry stands ahead of itself")
	}
}

func TestLessLeavesOutTheSpellingAndTheValue(t *testing.T) {
	a, b := entry("a", 5, api.KPut), entry("a", 5, api.KPut)
	a.Spelling, b.Spelling = "a", "z"
	if Less(a, b) || Less(b, a) {
		t.Error("P7.1: Less goes by the Spelling")
	}
	a.Spelling, a.Value, b.Value = b.Spelling, "", "x"
	if Less(a, b) || Less(b, a) {
		t.Error("P7.1: Less goes by the Value")
	}
	a.Norm, b.Norm = "b", "a"
	wantAhead(t, b, a)
}

func TestLessOfManyEntries(t *testing.T) {
	var l []api.Entry
	for _, norm := range []string{"", "a", "aa", "b", "\xff"} {
		for _, seq := range []int64{math.MaxInt64, 2, 1, 0, -1, math.MinInt64} {
			for _, kind := range someKinds() {
				l = append(l, entry(norm, seq, kind))
			}
		}
	}
	for i, a := range l {
		for j, b := range l {
			if Less(a, b) != (i < j) || Eq(a, b) != (i == j) {
				t.Fatalf("P7.1: entries %d and %d: %v, %v", i, j, Less(a, b), Eq(a, b))
			}
		}
	}
}

// wantEq fails unless Eq tells want of a and b, both ways.
func wantEq(t *testing.T, a, b api.Entry, want bool) {
	t.Helper()
	if Eq(a, b) != want || Eq(b, a) != want {
		t.Errorf("P7.1: Eq of %v and %v: %v, %v", a, b, Eq(a, b), Eq(b, a))
	}
}

func TestEqOfAlikeEntries(t *testing.T) {
	e := entry("a", 9, api.KPut)
	wantEq(t, e, e, true)
	wantEq(t, e, entry("a", 9, api.KPut), true)
	wantEq(t, api.Entry{}, api.Entry{}, true)
	e.Value = strings.Repeat("v", 1<<20)
	other := entry("a", 9, api.KPut)
	other.Value = strings.Repeat("v", 1<<20)
	wantEq(t, e, other, true)
}

func TestEqWhereOneFieldAloneDiffers(t *testing.T) {
	for _, e := range []api.Entry{entry("a", 9, api.KPut), entry("", 0, api.KDel), {}, entry("\xff", math.MaxInt64, math.MinInt)} {
		other := e
		other.Norm += "\x00"
		wantEq(t, e, other, false)
		for _, change := range []int64{1, -1, 1 << 31, 1 << 32, 1 << 53, math.MinInt64} {
			other = e
			other.Seq ^= change
			wantEq(t, e, other, false)
			other = e
			other.Kind ^= int(change)
			wantEq(t, e, other, false)
		}
		other = e
		other.Spelling += "x"
		wantEq(t, e, other, false)
		other = e
		other.Value += "x"
		wantEq(t, e, other, false)
	}
}

func TestEqIsByBytes(t *testing.T) {
	a, b := entry("a", 1, api.KPut), entry("a", 1, api.KPut)
	// One form, two spellings: the entries are not alike.
	a.Spelling, b.Spelling = "\u00c5", "\u212b"
	wantEq(t, a, b, false)
	// Bytes may not go over from one field to the next.
	wantEq(t, api.Entry{Spelling: "ab", Value: "c"}, api.Entry{Spelling: "a", Value: "bc"}, false)
	wantEq(t, api.Entry{Norm: "ab", Spelling: "c"}, api.Entry{Norm: "a", Spelling: "bc"}, false)
	wantEq(t, api.Entry{Spelling: "a"}, api.Entry{Value: "a"}, false)
}

// wantSorted fails unless Sorted tells want of l.
func wantSorted(t *testing.T, want bool, l ...api.Entry) {
	t.Helper()
	if Sorted(l) != want {
		t.Errorf("P7.1: Sorted(%.80v): %v", l, !want)
	}
}

func TestSortedOfNoneAndOfOne(t *testing.T) {
	if !Sorted(nil) || !Sorted([]api.Entry{}) {
		t.Error("P7.1: Sorted of no entry")
	}
	wantSorted(t, true, api.Entry{})
	wantSorted(t, true, entry("a", -9, 7))
}

func TestSortedOfSeveral(t *testing.T) {
	wantSorted(t, true, manyEntries()...)
	wantSorted(t, true, entry("a", 1, 0), entry("b", 1, 0))
	wantSorted(t, true, entry("a", 2, 0), entry("a", 1, 1))
	wantSorted(t, true, entry("a", 2, 1), entry("a", 2, 0))
	wantSorted(t, true, entry("a", 2, 1), entry("a", 2, 0), entry("b", 9, 0), entry("c", 1, 1))
}

func TestSortedWithTwoAlike(t *testing.T) {
	a, b, c := entry("a", 3, 1), entry("b", 2, 1), entry("c", 1, 1)
	wantSorted(t, false, a, a)
	wantSorted(t, false, a, a, b, c)
	wantSorted(t, false, a, b, b, c)
	wantSorted(t, false, a, b, c, c)
	wantSorted(t, false, a, b, c, a)
	wantSorted(t, false, api.Entry{}, api.Entry{})
	// They need only be alike in what Less goes by.
	other := b
	other.Spelling, other.Value = "x", "y"
	wantSorted(t, false, a, b, other, c)
	wantSorted(t, false, a, other, b, c)
}

func TestSortedWithTwoTheWrongWayRound(t *testing.T) {
	l := manyEntries()
	for _, i := range []int{0, 1, 7, 8, 143, 144, len(l) / 2, len(l) - 3, len(l) - 2} {
		wrong := slices.Clone(l)
		wrong[i], wrong[i+1] = wrong[i+1], wrong[i]
		if Sorted(wrong) {
			t.Errorf("P7.1: Sorted with %d and the next the wrong way round", i)
		}
	}
	wantSorted(t, false, entry("b", 1, 1), entry("a", 1, 1))
	wantSorted(t, false, entry("a", 1, 1), entry("a", 2, 1))
	wantSorted(t, false, entry("a", 1, 0), entry("a", 1, 1))
	wantSorted(t, false, entry("a", math.MinInt64, 0), entry("a", math.MaxInt64, 0))
}

// find follows the chapter's words from the first entry on.
func find(l []api.Entry, norm string, seq int64) (api.Entry, bool) {
	for _, e := range l {
		if e.Norm == norm && e.Seq <= seq {
			return e, true
		}
	}
	return api.Entry{}, false
}

// wantFound fails unless Find in l is answered e; wantNone: nothing.
func wantFound(t *testing.T, l []api.Entry, norm string, seq int64, e api.Entry) {
	t.Helper()
	if got, ok := Find(l, norm, seq); !ok || got != e {
		t.Errorf("P7.1: Find(%.20q, %d): %v, %v", norm, seq, got, ok)
	}
}

func wantNone(t *testing.T, l []api.Entry, norm string, seq int64) {
	t.Helper()
	if got, ok := Find(l, norm, seq); ok || got != (api.Entry{}) {
		t.Errorf("P7.1: Find(%.20q, %d): %v, %v", norm, seq, got, ok)
	}
}

func TestFindAboveAtAndBelowEachSeq(t *testing.T) {
	l := []api.Entry{
		entry("a", 9, 1), entry("a", 6, 0), entry("a", 2, 1),
		entry("aa", 5, 0), entry("c", 7, 1), entry("c", -3, 1),
	}
	for _, row := range []struct {
		norm string
		seq  int64
		at   int
	}{
		{"a", math.MaxInt64, 0}, {"a", 10, 0}, {"a", 9, 0}, {"a", 8, 1}, {"a", 7, 1},
		{"a", 6, 1}, {"a", 5, 2}, {"a", 3, 2}, {"a", 2, 2}, {"aa", 6, 3}, {"aa", 5, 3},
		{"c", 8, 4}, {"c", 7, 4}, {"c", 6, 5}, {"c", 0, 5}, {"c", -2, 5}, {"c", -3, 5},
	} {
		wantFound(t, l, row.norm, row.seq, l[row.at])
	}
	for _, seq := range []int64{1, 0, -1, math.MinInt64} {
		wantNone(t, l, "a", seq)
		wantNone(t, l, "aa", seq)
	}
	wantNone(t, l, "aa", 4)
	wantNone(t, l, "c", -4)
	wantNone(t, l, "c", math.MinInt64)
}

func TestFindOfANormThatIsNotThere(t *testing.T) {
	l := []api.Entry{entry("a\u0301", 9, 1), entry("a\u0301", 2, 0), entry("c", 5, 1), entry("e", 1, 1)}
	for _, seq := range []int64{math.MaxInt64, 9, 5, 1, 0, -1, math.MinInt64} {
		for _, norm := range []string{"", "\x00", "a", "b", "c\x00", "d", "e\u0301", "z", "\xff", "A", "\u00e1"} {
			wantNone(t, l, norm, seq)
		}
	}
}

func TestFindInAnEmptyList(t *testing.T) {
	for _, norm := range []string{"", "a", "\xff"} {
		for _, seq := range someSeqs() {
			wantNone(t, nil, norm, seq)
			wantNone(t, []api.Entry{}, norm, seq)
			wantNone(t, make([]api.Entry, 0, 4), norm, seq)
		}
	}
}

func TestFindInAListOfOne(t *testing.T) {
	for _, e := range []api.Entry{entry("b", 5, 1), entry("", 5, 0), {Seq: 5}} {
		l := []api.Entry{e}
		wantFound(t, l, e.Norm, 6, e)
		wantFound(t, l, e.Norm, 5, e)
		wantNone(t, l, e.Norm, 4)
		wantNone(t, l, "a", 9)
		wantNone(t, l, "c", 9)
	}
	wantFound(t, []api.Entry{{}}, "", 0, api.Entry{})
	wantNone(t, []api.Entry{{}}, "", -1)
	wantFound(t, []api.Entry{{Seq: math.MinInt64}}, "", math.MinInt64, api.Entry{Seq: math.MinInt64})
}

func TestFindTellsTheFirstOfOneSeq(t *testing.T) {
	l := []api.Entry{entry("a", 9, 1), entry("a", 9, 0), entry("a", 8, 1), entry("a", 8, 0), entry("b", 1, 0)}
	wantFound(t, l, "a", 10, l[0])
	wantFound(t, l, "a", 9, l[0])
	wantFound(t, l, "a", 8, l[2])
	wantNone(t, l, "a", 7)
	// A Del is told as any other.
	wantFound(t, l, "b", 1, l[4])
}

func TestFindOfManyEntries(t *testing.T) {
	l := manyEntries()
	var few []api.Entry
	for i := 0; i < len(l); i += 11 {
		few = append(few, l[i])
	}
	norms := append(someNorms(), "A", "ab", "c", "z", "\u00e1", "\xfe", "\xff\xff\xff")
	for _, in := range [][]api.Entry{l, few, few[:1], few[:2], few[1:], few[:len(few)-1]} {
		for _, norm := range norms {
			for _, seq := range append(someSeqs(), 3, -3, 1000, -1000) {
				got, ok := Find(in, norm, seq)
				if want, wantOK := find(in, norm, seq); got != want || ok != wantOK {
					t.Fatalf("P7.1: of %d entries Find(%.20q, %d): %.60v, %v", len(in), norm, seq, got, ok)
				}
			}
		}
	}
}

func TestFindEndsInAListThatIsNotSorted(t *testing.T) {
	l := manyEntries()
	slices.Reverse(l)
	for _, norm := range someNorms() {
		for _, seq := range someSeqs() {
			if got, ok := Find(l, norm, seq); ok && got.Norm != norm || !ok && got != (api.Entry{}) {
				t.Errorf("P0.2: Find(%.20q, %d): %.60v, %v", norm, seq, got, ok)
			}
		}
	}
}

func TestListsStayAsTheyAre(t *testing.T) {
	room := manyEntries()
	l, kept := room[:len(room)/2], slices.Clone(room)
	Sorted(l)
	for _, norm := range someNorms() {
		e, _ := Find(l, norm, 9)
		e.Norm, e.Seq, e.Value = "other", 0, "other"
	}
	if !slices.Equal(room, kept) {
		t.Error("P0.3: a list that was handed in is changed")
	}
	slices.Reverse(room)
	Find(room, "a", 9)
	Sorted(room)
	slices.Reverse(room)
	if !slices.Equal(room, kept) {
		t.Error("P0.3: a list that is not sorted is changed")
	}
}

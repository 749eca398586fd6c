package drop

import (
	"slices"
	"testing"

	"incipit/api"
)

// other is what is written into lists.
var other = api.Entry{Norm: "other", Seq: 77, Kind: api.KPut, Spelling: "other", Value: "other"}

// scribble writes into all of a list, its spare room too.
func scribble(l []api.Entry) {
	l = l[:cap(l)]
	for i := range l {
		l[i] = other
	}
}

// roomy tells a list with spare room behind it.
func roomy(l []api.Entry) []api.Entry {
	room := slices.Concat(l, []api.Entry{other, {}, other})
	return room[:len(l)]
}

// lists are sorted lists of which something goes, something stays.
func lists() [][]api.Entry {
	return [][]api.Entry{
		nil, {}, list("a9"), list("a9-"), list("a9 a5- a3 b8- b5 c4"), list("a9- b5- c3-"), list("a9 b5 c3"),
		slices.Concat(oneNorm("a", 1000, 1000), oneNorm("b", 40), oneNorm("c", 1500), oneNorm("d", 40)),
	}
}

func TestWhatGoesInIsNotChanged(t *testing.T) {
	for _, l := range lists() {
		l = roomy(l)
		snaps := append(make([]int64, 0, 9), 8, 3, 8, 4, 1)
		copy(snaps[5:9], []int64{7, 6, 5, 4})
		wasL, wasSnaps := slices.Clone(l[:cap(l)]), slices.Clone(snaps[:cap(snaps)])
		for _, bottom := range []bool{false, true} {
			scribble(Entries(l, snaps, bottom))
			scribble(Entries(l, snaps[:0], bottom))
		}
		scribble(Seen(l, 8))
		for _, p := range Cut(l) {
			scribble(p)
		}
		if !slices.Equal(l[:cap(l)], wasL) || !slices.Equal(snaps[:cap(snaps)], wasSnaps) {
			t.Errorf("P0.3: %s and %v went in, and are %s and %v now", told(wasL), wasSnaps, told(l), snaps)
		}
	}
}

func TestAnswersAreApart(t *testing.T) {
	for _, l := range lists() {
		snaps := []int64{8, 3}
		for _, bottom := range []bool{false, true} {
			want := modelEntries(l, snaps, bottom)
			one, two := Entries(l, snaps, bottom), Entries(l, snaps, bottom)
			scribble(one)
			if three := Entries(l, snaps, bottom); !slices.Equal(two, want) || !slices.Equal(three, want) {
				t.Errorf("P0.3: Entries of %s: %s, then %s, not %s", told(l), told(two), told(three), told(want))
			}
		}
		want := modelSeen(l, 8)
		one, two := Seen(l, 8), Seen(l, 8)
		scribble(one)
		if three := Seen(l, 8); !slices.Equal(two, want) || !slices.Equal(three, want) {
			t.Errorf("P0.3: Seen of %s: %s, then %s, not %s", told(l), told(two), told(three), told(want))
		}
	}
}

func TestPiecesAreApart(t *testing.T) {
	for _, l := range lists() {
		want := modelCut(l)
		for i := range want {
			one, two := Cut(l), Cut(l)
			scribble(one[i])
			_ = append(one[i], other, other)
			one[i] = want[i]
			if !alike(one, want) || !alike(two, want) || !alike(Cut(l), want) {
				t.Errorf("P0.3: of the pieces of %s the piece %d is changed, and others with it", shown(told(l)), i)
			}
			for k := range two[:cap(two)] {
				two[:cap(two)][k] = nil
			}
			if !alike(Cut(l), want) {
				t.Errorf("P0.3: the list of the pieces of %s is kept", shown(told(l)))
			}
		}
	}
}

func TestAnswersStayWhenTheArgumentsChange(t *testing.T) {
	for _, was := range lists() {
		l, snaps := slices.Clone(was), []int64{8, 3}
		left, seen, pieces := Entries(l, snaps, false), Seen(l, 8), Cut(l)
		idle := Entries(l, snaps, true)
		scribble(l)
		snaps[0], snaps[1] = 1, 0
		if !slices.Equal(left, modelEntries(was, []int64{8, 3}, false)) || !slices.Equal(idle, modelEntries(was, []int64{8, 3}, true)) {
			t.Errorf("P0.3: of %s is left %s, and %s", told(was), told(left), told(idle))
		}
		if !slices.Equal(seen, modelSeen(was, 8)) || !alike(pieces, modelCut(was)) {
			t.Errorf("P0.3: of %s is seen %s, and the pieces have %v", told(was), told(seen), lengths(pieces))
		}
	}
}

func TestNilListsAreEmptyOnes(t *testing.T) {
	for _, l := range lists() {
		for _, bottom := range []bool{false, true} {
			if one, two := Entries(l, nil, bottom), Entries(l, []int64{}, bottom); !slices.Equal(one, two) {
				t.Errorf("P0.4: of %s is left %s by nil, %s by an empty list", told(l), told(one), told(two))
			}
		}
	}
}

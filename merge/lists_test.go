package merge

import (
	"fmt"
	"math/rand/v2"
	"slices"
	"strings"
	"testing"

	"incipit/api"
)

// spoil writes other entries into a list, and into its spare room.
func spoil(l []api.Entry) {
	for i := range l[:cap(l)] {
		l[:cap(l)][i] = ahead()
	}
}

// roomy tells a list with spare room behind it.
func roomy(l []api.Entry) []api.Entry {
	room := slices.Clip(slices.Concat(l, []api.Entry{ahead(), {}, ahead()}))
	return room[:len(l)]
}

// wholes tells lists, each with its spare room, in memory of their own.
func wholes(lists [][]api.Entry) [][]api.Entry {
	l := make([][]api.Entry, len(lists))
	for i := range l {
		l[i] = slices.Clone(lists[i][:cap(lists[i])])
	}
	return l
}

func TestSliceOfNone(t *testing.T) {
	for name, l := range map[string][]api.Entry{"nil": nil, "empty": {}, "spare room": manyEntries()[:0]} {
		s := Slice(l)
		if s == nil {
			t.Fatalf("P18.1: %s: no source", name)
		}
		wantEnd(t, name, s)
	}
}

func TestSliceTellsItsListAsItIs(t *testing.T) {
	many := manyEntries()
	for n := range 20 {
		wantTold(t, fmt.Sprint(n, " entries"), Slice(many[n:2*n]), many[n:2*n])
	}
	wantTold(t, "many", Slice(many), many)
	falling := slices.Clone(many)
	slices.Reverse(falling)
	wantTold(t, "falling", Slice(falling), falling)
	twice := []api.Entry{many[3], many[3], {}, {}, many[1]}
	wantTold(t, "some twice", Slice(twice), twice)
}

func TestSliceNeitherChangesNorKeepsItsList(t *testing.T) {
	many := manyEntries()
	for n := range 12 {
		// The list is written into behind Slice, and behind each number of Nexts.
		for spoilt := range n + 1 {
			what := fmt.Sprint(n, " entries, spoilt at ", spoilt)
			l, want := roomy(many[:n]), many[:n]
			before := slices.Clone(l[:cap(l)])
			s := Slice(l)
			for k := range spoilt {
				wantNext(t, what, s, want[k])
			}
			if !slices.Equal(l[:cap(l)], before) {
				t.Fatalf("P0.3: %s: the list is changed", what)
			}
			spoil(l)
			wantTold(t, what, s, want[spoilt:])
			if spoil(before); !slices.Equal(l[:cap(l)], before) {
				t.Fatalf("P0.3: %s: the list is changed by a Next", what)
			}
		}
	}
}

func TestSlicesOfOneListSideBySide(t *testing.T) {
	l := manyEntries()[:50]
	one, other := Slice(l), Slice(l)
	for k, e := range l {
		wantNext(t, "one", one, e)
		if k%2 == 1 {
			wantNext(t, "the other", other, l[k/2])
		}
	}
	wantEnd(t, "one", one)
	wantTold(t, "the other", other, l[25:])
}

func TestMergedOfSlices(t *testing.T) {
	r := rand.New(rand.NewPCG(18, 7))
	for round := range 300 {
		lists := fewAlike(r, 6, 8)
		want := plain(lists)
		var sources []Source
		for _, l := range lists {
			sources = append(sources, Slice(l))
		}
		m := New(sources)
		for _, l := range lists {
			spoil(l)
		}
		wantTold(t, fmt.Sprint("round ", round), m, want)
	}
}

func TestAllOfNone(t *testing.T) {
	for name, lists := range map[string][][]api.Entry{
		"nil": nil, "no lists": {}, "spare room": [][]api.Entry{{ahead()}}[:0], "a nil list": {nil}, "an empty list": {{}},
		"nil and empty lists": {nil, {}, nil, {}, manyEntries()[:0]},
	} {
		if l := All(lists); len(l) != 0 {
			t.Errorf("P18.1: %s: %d entries", name, len(l))
		}
	}
}

func TestAllOfOneList(t *testing.T) {
	many := manyEntries()
	for _, n := range []int{1, 2, 3, 10, len(many)} {
		for _, lists := range [][][]api.Entry{{many[:n]}, {nil, many[:n]}, {{}, many[:n], nil, {}}} {
			l := All(lists)
			wantEntries(t, fmt.Sprint(n, " entries"), l, many[:n])
			spoil(l)
			wantEntries(t, fmt.Sprint(n, " entries again"), All(lists), manyEntries()[:n])
		}
	}
}

func TestAllOfManyLists(t *testing.T) {
	r := rand.New(rand.NewPCG(18, 8))
	for _, count := range []int{2, 3, 10, 300, 2000} {
		wantEntries(t, fmt.Sprint(count, " lists"), All(parted(r, manyEntries(), count)), manyEntries())
	}
	for round := range 300 {
		lists := fewAlike(r, r.IntN(50), r.IntN(20))
		wantEntries(t, fmt.Sprint("round ", round), All(lists), plain(lists))
	}
}

func TestAllOfEqualEntriesInManyLists(t *testing.T) {
	var lists [][]api.Entry
	var want []api.Entry
	for i := range 100 {
		l := []api.Entry{entry("k", 5, 1, fmt.Sprint(100-i)), entry("k", 5, 1, fmt.Sprint(-i))}
		lists, want = append(lists, l, nil), append(want, l...)
	}
	wantEntries(t, "two in each", All(lists), want)
	same := slices.Repeat([][]api.Entry{{entry("k", 5, 1, "same"), {Norm: "l"}}}, 30)
	wantEntries(t, "one list many times", All(same), plain(same))
}

func TestAllTellsNewMemory(t *testing.T) {
	r := rand.New(rand.NewPCG(18, 9))
	for round := range 300 {
		what := fmt.Sprint("round ", round)
		lists := fewAlike(r, 1+r.IntN(6), 8)
		for i := range lists {
			lists[i] = roomy(lists[i])
		}
		want := plain(lists)
		one, other := All(lists), All(lists)
		spoil(one)
		wantEntries(t, what+", another answer", other, want)
		wantEntries(t, what+", a later answer", All(lists), want)
		for _, l := range lists {
			spoil(l)
		}
		wantEntries(t, what+", behind changes of the lists", other, want)
	}
}

func TestAllDoesNotChangeItsLists(t *testing.T) {
	r := rand.New(rand.NewPCG(18, 10))
	for round := range 300 {
		lists := fewAlike(r, r.IntN(7), 8)
		room := append(slices.Clone(lists), []api.Entry{ahead()}, nil)
		for i, l := range room {
			room[i] = roomy(l)
		}
		before := wholes(room)
		wantEntries(t, fmt.Sprint("round ", round), All(room[:len(lists)]), plain(lists))
		for i, l := range wholes(room) {
			if len(room[i]) != len(l)-3 || !slices.Equal(l, before[i]) {
				t.Fatalf("P0.3: round %d: the list %d is changed", round, i)
			}
		}
	}
}

func TestAllOfListsThatAreNotSorted(t *testing.T) {
	// In what order they come is not said: only that none is lost.
	r := rand.New(rand.NewPCG(18, 11))
	for round := range 200 {
		lists := fewAlike(r, 1+r.IntN(6), 8)
		want := plain(lists)
		for _, l := range lists {
			r.Shuffle(len(l), func(i, j int) { l[i], l[j] = l[j], l[i] })
		}
		wantEntries(t, fmt.Sprint("round ", round), byMark(All(lists)), byMark(want))
	}
}

// byMark tells entries in another order: by their values.
func byMark(l []api.Entry) []api.Entry {
	l = slices.Clone(l)
	slices.SortFunc(l, func(a, b api.Entry) int { return strings.Compare(a.Value, b.Value) })
	return l
}

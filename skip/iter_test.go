package skip

import (
	"fmt"
	"math"
	"math/rand/v2"
	"testing"

	"incipit/api"
)

// standing makes an iterator that stands at that place.
func standing(l *List, m model, place int) *Iter {
	i := l.Iter()
	if place < 0 || place >= len(m) {
		return i
	}
	i.First()
	for range place {
		i.Next()
	}
	return i
}

func TestIterInAnEmptyList(t *testing.T) {
	l, m := New([]int{8, 2}), model{}
	i := l.Iter()
	wantNothing(t, "Iter", i)
	for name, move := range map[string]func(){
		"First": i.First, "Last": i.Last, "Next": i.Next, "Prev": i.Prev,
		"Seek": func() { i.Seek("a", 1) }, "Seek to the first": func() { i.Seek("", math.MaxInt64) },
	} {
		move()
		wantNothing(t, name, i)
	}
	// It stays at none when the list is empty no longer, until it is moved.
	wantPut(t, l, &m, entry("a", 1, 1))
	wantNothing(t, "behind a Put", i)
	i.Last()
	wantAt(t, "Last", i, m, 0)
}

func TestIterStandsAtNoEntryFirst(t *testing.T) {
	l, m := filled(t, []int{3, 1, 2}, abc()...)
	i := l.Iter()
	wantNothing(t, "Iter", i)
	i.First()
	wantAt(t, "First", i, m, 0)
	wantNothing(t, "another Iter", l.Iter())
	wantAt(t, "First, and another Iter", i, m, 0)
}

func TestFirstLastFromEachPlace(t *testing.T) {
	l, m := filled(t, []int{3, 1, 2}, abc()...)
	for place := -1; place < len(m); place++ {
		i := standing(l, m, place)
		wantAt(t, "standing", i, m, place)
		i.First()
		wantAt(t, "First", i, m, 0)
		i = standing(l, m, place)
		i.Last()
		wantAt(t, "Last", i, m, len(m)-1)
		i.Last()
		wantAt(t, "Last again", i, m, len(m)-1)
		i.First()
		wantAt(t, "First behind Last", i, m, 0)
	}
}

func TestNextPrevFromEachPlace(t *testing.T) {
	for _, heights := range someHeights() {
		l, m := filled(t, heights, shuffled(manyEntries(), 8)[:40]...)
		for place := range m {
			i := standing(l, m, place)
			for k := place; k < len(m); k++ {
				wantAt(t, "Next", i, m, k)
				i.Next()
			}
			wantNothing(t, "behind the last one", i)
			i = standing(l, m, place)
			for k := place; k >= 0; k-- {
				wantAt(t, "Prev", i, m, k)
				i.Prev()
			}
			wantNothing(t, "ahead of the first one", i)
		}
	}
}

func TestIterGoesOnFromNone(t *testing.T) {
	l, m := filled(t, nil, abc()...)
	out := func(last bool) *Iter {
		i := l.Iter()
		if last {
			i.Last()
			i.Next()
		} else {
			i.First()
			i.Prev()
		}
		wantNothing(t, "out", i)
		return i
	}
	for _, last := range []bool{false, true} {
		i := out(last)
		i.First()
		wantAt(t, "First", i, m, 0)
		i = out(last)
		i.Last()
		wantAt(t, "Last", i, m, len(m)-1)
		i = out(last)
		i.Seek("d", 5)
		wantAt(t, "Seek", i, m, 3)
		i.Next()
		wantAt(t, "Seek, Next", i, m, 4)
		i.Seek("g", 5)
		wantNothing(t, "Seek behind all", i)
	}
}

func TestSeek(t *testing.T) {
	for _, heights := range someHeights() {
		l, m := filled(t, heights, shuffled(abc(), 9)...)
		i := l.Iter()
		for _, row := range []struct {
			norm  string
			seq   int64
			place int
		}{
			{"", math.MaxInt64, 0}, {"", math.MinInt64, 0}, {"a", 1, 0}, {"b", math.MaxInt64, 0}, {"b", 10, 0},
			{"b", 9, 0}, {"b", 8, 1}, {"b", 7, 1}, {"b", 6, 1}, {"b", 5, 2}, {"b", 0, 2}, {"b", -1, 2}, {"b", -2, 2},
			{"b", -3, 3}, {"b", math.MinInt64, 3}, {"b\x00", 9, 3}, {"c", 5, 3}, {"d", 6, 3}, {"d", 5, 3},
			{"d", 4, 4}, {"e", -9, 4}, {"f", 8, 4}, {"f", 7, 4}, {"f", 6, 5}, {"f", 1, 5}, {"f", 0, -1},
			{"f", math.MinInt64, -1}, {"f\x00", math.MaxInt64, -1}, {"g", 9, -1}, {"\xff", math.MaxInt64, -1},
		} {
			what := fmt.Sprintf("Seek(%q, %d)", row.norm, row.seq)
			i.Seek(row.norm, row.seq)
			wantAt(t, what, i, m, row.place)
			if row.place < 0 {
				wantNothing(t, what, i)
				continue
			}
			i.Prev()
			wantAt(t, what+", Prev", i, m, row.place-1)
			i.Seek(row.norm, row.seq)
			i.Next()
			wantAt(t, what+", Next", i, m, row.place+1)
		}
	}
}

func TestSeekGoesByTheKind(t *testing.T) {
	for _, kind := range someKinds() {
		l, m := filled(t, []int{2, 1}, entry("a", 5, kind), entry("a", 4, 1), entry("b", 5, kind))
		for _, norm := range []string{"a", "b"} {
			for _, seq := range []int64{6, 5, 4, 3} {
				i := l.Iter()
				i.Seek(norm, seq)
				wantAt(t, fmt.Sprintf("kind %d: Seek(%q, %d)", kind, norm, seq), i, m, m.seek(norm, seq))
			}
		}
		// A kind above KPut stands ahead of a Put with its number; Get meets it.
		i := l.Iter()
		i.Seek("a", 5)
		if passed := i.Entry() != m[0]; passed != (kind > api.KPut) {
			t.Errorf("P14.1: Seek to the kind %d: %s", kind, shown(i.Entry()))
		}
		if e, ok := l.Get("a", 5); !ok || e != m[0] {
			t.Errorf("P14.1: Get of the kind %d: %s, %v", kind, shown(e), ok)
		}
	}
}

func TestSeekOfManyEntries(t *testing.T) {
	norms := append(someNorms(), "A", "ab", "c", "z", "\u00e1", "\xfe", "\xff\xff\xff")
	seqs := append(someSeqs(), 3, -3, 1000, -1000, 1<<33)
	for k, many := range []int{0, 1, 2, 3, 20, 100, len(manyEntries())} {
		l, m := filled(t, []int{2, 9, -1, 4}, shuffled(manyEntries(), uint64(k+20))[:many]...)
		i := l.Iter()
		for _, norm := range norms {
			for _, seq := range seqs {
				i.Seek(norm, seq)
				wantAt(t, fmt.Sprintf("of %d: Seek(%.20q, %d)", many, norm, seq), i, m, m.seek(norm, seq))
			}
		}
	}
}

// wantBoth fails unless an iterator that stands at e meets what the model has
// ahead of it and behind it, each by one of its own.
func wantBoth(t *testing.T, what string, next, prev *Iter, m model, e api.Entry) {
	t.Helper()
	place := m.place(e)
	wantAt(t, what, next, m, place)
	wantAt(t, what, prev, m, place)
	for k := place + 1; k <= len(m); k++ {
		next.Next()
		wantAt(t, what+", Next", next, m, k)
	}
	for k := place - 1; k >= -1; k-- {
		prev.Prev()
		wantAt(t, what+", Prev", prev, m, k)
	}
}

func TestIterMeetsWhatIsPutLater(t *testing.T) {
	later := []api.Entry{
		entry("a", 1, 1), entry("b", 10, 0), entry("b", 7, 1), entry("b", 5, 0), entry("b", -3, 1), entry("c", 1, 1),
		entry("d", 6, 1), entry("d", 4, 0), entry("e", 1, 1), entry("f", 8, 0), entry("f", 2, 1), entry("f", 0, 1), entry("g", 1, 0),
	}
	for _, heights := range someHeights() {
		for place, e := range abc() {
			// Each of them alone, and all of them one behind the other.
			for k := range later {
				l, m := filled(t, heights, abc()...)
				next, prev := standing(l, m, place), standing(l, m, place)
				wantPut(t, l, &m, later[k])
				wantBoth(t, fmt.Sprint(e, " and ", later[k]), next, prev, m, e)
			}
			l, m := filled(t, heights, abc()...)
			next, prev := standing(l, m, place), standing(l, m, place)
			for _, x := range shuffled(later, uint64(place)) {
				wantPut(t, l, &m, x)
				wantAt(t, "a Put beside it", next, m, m.place(e))
			}
			wantBoth(t, fmt.Sprint(e, " and all"), next, prev, m, e)
		}
	}
}

func TestIterMeetsWhatIsPutOnItsWay(t *testing.T) {
	l, m := filled(t, []int{1, 3, 2}, entry("b", 1, 1), entry("h", 1, 1))
	i := l.Iter()
	i.First()
	wantPut(t, l, &m, entry("e", 1, 1))
	i.Next()
	wantAt(t, "right behind it", i, m, m.place(entry("e", 1, 1)))
	wantPut(t, l, &m, entry("d", 1, 1))
	wantPut(t, l, &m, entry("f", 1, 1))
	i.Next()
	wantAt(t, "behind it", i, m, m.place(entry("f", 1, 1)))
	i.Next()
	wantPut(t, l, &m, entry("i", 1, 1))
	i.Next()
	wantAt(t, "behind all", i, m, len(m)-1)
	i.Next()
	wantPut(t, l, &m, entry("z", 1, 1))
	wantNothing(t, "out behind all", i)
	i.Last()
	wantAt(t, "Last", i, m, len(m)-1)
	for k := len(m) - 1; k > 0; k-- {
		wantAt(t, "Prev", i, m, k)
		i.Prev()
	}
	wantPut(t, l, &m, entry("a", 1, 1))
	i.Prev()
	wantAt(t, "ahead of all", i, m, 0)
	i.Prev()
	wantPut(t, l, &m, entry("", 1, 1))
	wantNothing(t, "out ahead of all", i)
	i.First()
	wantAt(t, "First", i, m, 0)
}

// walker is an iterator, and the entry at which it must stand.
type walker struct {
	i     *Iter
	at    api.Entry
	there bool
}

// walk moves it by a number, and fails unless it stands as the model says.
func (w *walker) walk(t *testing.T, m model, move int, norm string, seq int64) {
	t.Helper()
	place := -1
	switch move {
	case 0:
		w.i.Seek(norm, seq)
		place = m.seek(norm, seq)
	case 1:
		w.i.First()
		place = 0
	case 2:
		w.i.Last()
		place = len(m) - 1
	default:
		next := move%2 == 0
		if next {
			w.i.Next()
		} else {
			w.i.Prev()
		}
		if w.there && next {
			place = m.place(w.at) + 1
		} else if w.there {
			place = m.place(w.at) - 1
		}
	}
	w.at, w.there = m.at(place)
	wantAt(t, fmt.Sprintf("move %d, %.20q, %d", move, norm, seq), w.i, m, place)
}

func TestManyIteratorsSideBySide(t *testing.T) {
	kinds := someKinds()
	for round := range uint64(60) {
		r := rand.New(rand.NewPCG(round, 41))
		heights := make([]int, r.IntN(40))
		for k := range heights {
			heights[k] = r.IntN(12) - 1
		}
		l, m := New(heights), model{}
		walkers := make([]walker, 1+r.IntN(6))
		for k := range walkers {
			walkers[k].i = l.Iter()
		}
		for range 300 {
			norm, seq := string(rune('a'+r.IntN(6))), int64(r.IntN(12)-4)
			if r.IntN(4) == 0 {
				wantPut(t, l, &m, entry(norm, seq, kinds[r.IntN(len(kinds))]))
			}
			wantGet(t, l, m, norm, seq)
			walkers[r.IntN(len(walkers))].walk(t, m, r.IntN(12), norm, seq)
			// Whoever is not moved stays where it stands.
			for _, w := range walkers {
				if w.i.OK() != w.there || w.i.Entry() != w.at {
					t.Fatalf("P14.1: an iterator moved by itself: %s, not %s", shown(w.i.Entry()), shown(w.at))
				}
			}
		}
		wantList(t, l, m)
	}
}

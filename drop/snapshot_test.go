package drop

import (
	"fmt"
	"maps"
	"slices"
	"testing"

	"incipit/api"
)

// state is the KPut of each Norm that is there.
type state map[string]api.Entry

// rows tells a state by Norm.
func (s state) rows() []api.Entry {
	return slices.SortedFunc(maps.Values(s), compare)
}

// snapshot is what was there behind a change.
type snapshot struct {
	seq int64
	was state
}

// store is lists of entries, the newest first, of which what nobody sees goes, and
// beside them what should be there.
type store struct {
	drawing
	lists [][]api.Entry
	now   state
	seq   int64
	snaps []snapshot
}

// change draws a change of one Norm.
func (s *store) change() {
	s.seq++
	e := entry(fmt.Sprint("k", s.IntN(5)), s.seq, api.KPut, fmt.Sprint(s.seq))
	delete(s.now, e.Norm)
	if s.IntN(3) == 0 {
		e.Kind, e.Value = api.KDel, ""
	} else {
		s.now[e.Norm] = e
	}
	s.lists[0] = merged(s.lists[0], []api.Entry{e})
}

// numbers tells those of the snapshots, in any order.
func (s *store) numbers() []int64 {
	var l []int64
	for _, x := range s.snaps {
		l = append(l, x.seq)
	}
	s.Shuffle(len(l), func(i, j int) { l[i], l[j] = l[j], l[i] })
	return l
}

// compact puts a list together with the next one, and drops what may go.
func (s *store) compact() {
	i := s.IntN(len(s.lists))
	below := min(i+1, len(s.lists)-1)
	l := s.lists[i]
	if below > i {
		l = merged(l, s.lists[below])
	}
	s.lists[i] = nil
	s.lists[below] = slices.Concat(Cut(Entries(l, s.numbers(), below == len(s.lists)-1))...)
}

// step draws what is done next.
func (s *store) step() {
	switch s.IntN(8) {
	case 0:
		s.snaps = append(s.snaps, snapshot{s.seq, maps.Clone(s.now)})
	case 1:
		if n := len(s.snaps); n > 0 {
			i := s.IntN(n)
			s.snaps = slices.Delete(s.snaps, i, i+1)
		}
	case 2, 3:
		s.compact()
	default:
		s.change()
	}
}

// merged puts lists together in order.
func merged(lists ...[]api.Entry) []api.Entry {
	l := slices.Concat(lists...)
	slices.SortFunc(l, compare)
	return l
}

func TestASnapshotStaysAsItWas(t *testing.T) {
	for seed := range uint64(300) {
		s := &store{drawing: newDrawing(seed), lists: make([][]api.Entry, 1+seed%4), now: state{}}
		for k := range 150 {
			s.step()
			l := merged(s.lists...)
			if got := Seen(l, s.seq); !slices.Equal(got, s.now.rows()) {
				t.Fatalf("U3: %d, at %d: %s is seen, not %s", seed, k, shown(told(got)), shown(told(s.now.rows())))
			}
			for _, x := range s.snaps {
				if got := Seen(l, x.seq); !slices.Equal(got, x.was.rows()) {
					t.Fatalf("U3: %d, at %d: by %d %s is seen, not %s", seed, k, x.seq, shown(told(got)), shown(told(x.was.rows())))
				}
			}
		}
	}
}

func TestWhatIsLeftOfAStore(t *testing.T) {
	// Where no snapshot stands, one entry is left of each key that is there, and
	// none of the others.
	for seed := range uint64(200) {
		s := &store{drawing: newDrawing(seed), lists: make([][]api.Entry, 1), now: state{}}
		for range 60 {
			s.change()
		}
		if left := Entries(s.lists[0], nil, true); !slices.Equal(left, s.now.rows()) {
			t.Fatalf("P23.1: %s is left, not %s", told(left), told(s.now.rows()))
		}
	}
}

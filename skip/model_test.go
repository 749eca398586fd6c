package skip

import (
	"cmp"
	"fmt"
	"math"
	"slices"
	"strings"
	"testing"

	"incipit/api"
)

// entry makes an entry whose texts have different lengths.
func entry(norm string, seq int64, kind int) api.Entry {
	return api.Entry{Norm: norm, Seq: seq, Kind: kind, Spelling: norm + "'", Value: fmt.Sprint("v", seq, ".", kind)}
}

// shown tells an entry, whose texts may be long and any bytes.
func shown(e api.Entry) string {
	return fmt.Sprintf("{%.20q %d %d %.20q %.20q}", e.Norm, e.Seq, e.Kind, e.Spelling, e.Value)
}

// someHeights are heights of every kind that New may be given.
func someHeights() map[string][]int {
	m := map[string][]int{
		"nil":       nil,
		"none":      {},
		"one":       {8},
		"few":       {3, 1, 2},
		"wrong":     {0, -1, math.MinInt, 9, 99, math.MaxInt, 1 << 32, -1 << 32, 0, 9},
		"falling":   {8, 7, 6, 5, 4, 3, 2, 1},
		"rising":    {1, 2, 3, 4, 5, 6, 7, 8},
		"with room": make([]int, 3, 50),
	}
	for h := -1; h <= 10; h++ {
		m[fmt.Sprint("all ", h)] = slices.Repeat([]int{h}, 30)
	}
	m["as towers are"] = nil
	for i := range 1000 {
		m["as towers are"] = append(m["as towers are"], natural(i))
	}
	return m
}

// natural is the height of a tower as it should be: half as many towers reach
// each next level.
func natural(i int) int {
	h := 1
	for i++; i%2 == 0; i /= 2 {
		h++
	}
	return h
}

// model is a plain sorted list.
type model []api.Entry

// compare puts entries by the chapters' words in order; kinds do not count.
func compare(a, b api.Entry) int {
	return cmp.Or(strings.Compare(a.Norm, b.Norm), cmp.Compare(b.Seq, a.Seq))
}

// put takes an entry, unless one with its Norm and Seq is there.
func (m *model) put(e api.Entry) bool {
	for _, other := range *m {
		if other.Norm == e.Norm && other.Seq == e.Seq {
			return false
		}
	}
	*m = append(*m, e)
	slices.SortFunc(*m, compare)
	return true
}

func (m model) get(norm string, seq int64) (api.Entry, bool) {
	for _, e := range m {
		if e.Norm == norm && e.Seq <= seq {
			return e, true
		}
	}
	return api.Entry{}, false
}

func (m model) size() int {
	n := 0
	for _, e := range m {
		n += len(e.Norm+e.Spelling+e.Value) + 32
	}
	return n
}

// place tells where an entry stands; -1: nowhere.
func (m model) place(e api.Entry) int {
	return slices.Index(m, e)
}

// seek tells the place of the first entry that stands not ahead of a Put of
// that norm and seq; -1: none does.
func (m model) seek(norm string, seq int64) int {
	return slices.IndexFunc(m, func(e api.Entry) bool {
		if e.Norm != norm {
			return e.Norm > norm
		}
		return e.Seq < seq || e.Seq == seq && e.Kind <= 1
	})
}

// at tells the entry at a place; a zero one, false: there is no such place.
func (m model) at(i int) (api.Entry, bool) {
	if i < 0 || i >= len(m) {
		return api.Entry{}, false
	}
	return m[i], true
}

// wantAt fails unless an iterator stands at that place of the model.
func wantAt(t *testing.T, what string, i *Iter, m model, place int) {
	t.Helper()
	want, ok := m.at(place)
	if i.OK() != ok || i.Entry() != want {
		t.Fatalf("P14.1: %s: %v, %s, not %v, %s", what, i.OK(), shown(i.Entry()), ok, shown(want))
	}
}

// wantList fails unless the list tells what the model does.
func wantList(t *testing.T, l *List, m model) {
	t.Helper()
	wantAlike(t, l.All(), m)
	if l.Len() != len(m) || l.Size() != m.size() {
		t.Fatalf("P14.1: Len %d, Size %d, not %d, %d", l.Len(), l.Size(), len(m), m.size())
	}
	for _, e := range m {
		wantGet(t, l, m, e.Norm, e.Seq)
	}
	wantWays(t, l, m)
}

// wantAlike fails unless the entries that All tells are those.
func wantAlike(t *testing.T, all, want []api.Entry) {
	t.Helper()
	for k := range min(len(all), len(want)) {
		if all[k] != want[k] {
			t.Fatalf("P14.1: All: at %d %s, not %s", k, shown(all[k]), shown(want[k]))
		}
	}
	if len(all) != len(want) {
		t.Fatalf("P14.1: All: %d entries, not %d", len(all), len(want))
	}
}

// wantGet fails unless the list gets what the model does.
func wantGet(t *testing.T, l *List, m model, norm string, seq int64) {
	t.Helper()
	got, ok := l.Get(norm, seq)
	if want, wantOK := m.get(norm, seq); got != want || ok != wantOK {
		t.Fatalf("P14.1: Get(%.20q, %d): %s, %v, not %s, %v", norm, seq, shown(got), ok, shown(want), wantOK)
	}
}

// wantWays fails unless an iterator meets all of the model both ways, from end
// to end, and stays at none where it comes out.
func wantWays(t *testing.T, l *List, m model) {
	t.Helper()
	i := l.Iter()
	wantAt(t, "Iter", i, m, -1)
	i.First()
	for k := range m {
		wantAt(t, "First, Next", i, m, k)
		i.Next()
	}
	wantNothing(t, "behind the last one", i)
	i.Last()
	for k := len(m) - 1; k >= 0; k-- {
		wantAt(t, "Last, Prev", i, m, k)
		i.Prev()
	}
	wantNothing(t, "ahead of the first one", i)
}

// wantNothing fails unless an iterator stands at none, and stays there.
func wantNothing(t *testing.T, what string, i *Iter) {
	t.Helper()
	wantAt(t, what, i, nil, -1)
	for range 2 {
		i.Next()
		wantAt(t, what+", Next", i, nil, -1)
	}
	for range 2 {
		i.Prev()
		wantAt(t, what+", Prev", i, nil, -1)
	}
	i.Next()
	wantAt(t, what+", Next again", i, nil, -1)
}

// filled makes a list and a model of the same entries, none of which they
// refuse.
func filled(t *testing.T, heights []int, entries ...api.Entry) (*List, model) {
	t.Helper()
	l, m := New(heights), model{}
	for _, e := range entries {
		wantPut(t, l, &m, e)
		if m.place(e) < 0 {
			t.Fatalf("%s is there twice", shown(e))
		}
	}
	return l, m
}

// wantPut fails unless the list takes an entry, or refuses it, as the model
// does.
func wantPut(t *testing.T, l *List, m *model, e api.Entry) {
	t.Helper()
	if got, want := l.Put(e), m.put(e); got != want {
		t.Fatalf("P14.1: Put(%s): %v", shown(e), got)
	}
}

package drop

import (
	"fmt"
	"math"
	"math/rand/v2"
	"slices"
	"strings"
	"testing"

	"incipit/api"
)

// shortLists do so for each list of a Norm's entries with those Seqs, which fall,
// each a KPut, a KDel, or none, or both.
func shortLists(norm string, seqs []int64, choices int, do func([]api.Entry)) {
	all := 1
	for range seqs {
		all *= choices
	}
	for n := range all {
		var l []api.Entry
		for _, seq := range seqs {
			if n%choices&1 == 1 {
				l = append(l, entry(norm, seq, api.KPut, fmt.Sprint(len(l))))
			}
			if n%choices&2 == 2 {
				l = append(l, entry(norm, seq, api.KDel, fmt.Sprint(len(l))))
			}
			n /= choices
		}
		do(l)
	}
}

// wantAll fails unless all is as the model says of a short list, by all numbers
// and by all choices of them.
func wantAll(t *testing.T, l []api.Entry, numbers []int64) {
	t.Helper()
	for n := range 1 << len(numbers) {
		wantLeft(t, l, subset(numbers, n), false)
		wantLeft(t, l, subset(numbers, n), true)
	}
	for seq := int64(-1); seq < 8; seq++ {
		wantSeen(t, l, seq)
	}
	wantCut(t, "short", l)
}

func TestAllShortListsOfOneNorm(t *testing.T) {
	shortLists("a", []int64{5, 4, 3, 1}, 3, func(l []api.Entry) { wantAll(t, l, []int64{5, 0, 3, 1, 4, 2}) })
}

func TestAllShortListsOfOneNormWithBothKindsOfASeq(t *testing.T) {
	shortLists("a", []int64{4, 3, 1}, 4, func(l []api.Entry) { wantAll(t, l, []int64{4, 0, 3, 1, 2}) })
}

func TestAllShortListsOfTwoNorms(t *testing.T) {
	numbers := []int64{2, 0, 3, 1}
	shortLists("a", []int64{3, 2, 1}, 3, func(one []api.Entry) {
		shortLists("b", []int64{3, 2, 1}, 3, func(two []api.Entry) {
			l := slices.Concat(one, two)
			for n := range 1 << len(numbers) {
				wantLeft(t, l, subset(numbers, n), n%2 == len(l)%2)
			}
			wantSeen(t, l, int64(len(l)-1))
		})
	})
}

// drawing draws entries and numbers.
type drawing struct {
	*rand.Rand
}

// newDrawing draws by a seed.
func newDrawing(seed uint64) drawing {
	return drawing{rand.New(rand.NewPCG(23, seed))}
}

// any draws one of l.
func (d drawing) any(l []int64) int64 {
	return l[d.IntN(len(l))]
}

// someSeqs are numbers of every size.
func someSeqs() []int64 {
	return []int64{math.MinInt64, math.MinInt64 + 1, -1 << 32, -2, -1, 0, 1, 2, 3, 1<<32 - 1, 1 << 32, 1<<32 + 1, api.MaxSeq, math.MaxInt64 - 1, math.MaxInt64}
}

// someKinds are kinds of every size, mostly the two that there are.
func someKinds() []int64 {
	return []int64{api.KDel, api.KPut, api.KDel, api.KPut, api.KDel, api.KPut, -1, 2, 1 << 32, math.MinInt64, math.MaxInt64}
}

// sorted draws a sorted list, no two of one place, mostly of the two kinds.
func (d drawing) sorted(norms []string, seqs []int64, most int) []api.Entry {
	kinds := someKinds()[:6]
	if d.IntN(10) == 0 {
		kinds = someKinds()
	}
	var l []api.Entry
	for i := range d.IntN(most + 1) {
		l = append(l, entry(norms[d.IntN(len(norms))], d.any(seqs), int(d.any(kinds)), fmt.Sprint(i)))
	}
	slices.SortFunc(l, compare)
	return slices.CompactFunc(l, func(a, b api.Entry) bool { return compare(a, b) == 0 })
}

// snaps draws numbers of snaps near the Seqs.
func (d drawing) snaps(seqs []int64) []int64 {
	var l []int64
	for range d.IntN(7) {
		n := d.any(seqs)
		switch {
		case d.IntN(3) == 0 && n > math.MinInt64:
			n--
		case d.IntN(3) == 0 && n < math.MaxInt64:
			n++
		}
		l = append(l, n)
	}
	return l
}

func TestDrawnLists(t *testing.T) {
	norms := []string{"", "a", "a\x00", "b", "e\u0301", "\u00e9", "\xff"}
	few, many := []int64{1, 2, 3, 4, 5, 6, 7, 8, 9}, someSeqs()
	for range 60 {
		many = append(many, int64(len(many))*1000)
	}
	for seed := range uint64(12000) {
		d := newDrawing(seed)
		seqs := few
		if seed%3 == 0 {
			seqs = many
		}
		l := d.sorted(norms[:1+d.IntN(len(norms))], seqs, 40)
		snaps := d.snaps(seqs)
		wantLeft(t, l, snaps, false)
		wantLeft(t, l, snaps, true)
		for _, seq := range append(snaps, d.any(seqs), d.any(many)) {
			wantSeen(t, l, seq)
		}
		wantCut(t, "drawn", l)
	}
}

func TestDrawnPieces(t *testing.T) {
	sizes := []int{40, 41, 100, 500, 700, 800, 1000, 1459, 1460, 1461, 1499, 1500, 1501, 4000}
	norms := []string{"a", "ab", "b", "c", "d", "e", "f", "g", "h", "i"}
	for seed := range uint64(4000) {
		d := newDrawing(seed)
		some := sizes[:1+d.IntN(len(sizes))]
		var l []api.Entry
		for _, norm := range norms {
			for k := range d.IntN(6) * d.IntN(2) {
				l = append(l, sized(norm, int64(90-k), some[d.IntN(len(some))]))
			}
		}
		wantPieces(t, l, Cut(l))
		wantCut(t, "drawn", l)
	}
}

// wantPieces fails unless pieces of a sorted list have what the chapter says of
// them, each by itself.
func wantPieces(t *testing.T, l []api.Entry, pieces [][]api.Entry) {
	t.Helper()
	if all := slices.Concat(pieces...); !slices.Equal(all, l) {
		t.Fatalf("P23.2: the pieces of %s are %s", shown(told(l)), shown(told(all)))
	}
	for i, p := range pieces {
		if len(p) == 0 {
			t.Fatalf("P23.2: of %s a piece has none", shown(told(l)))
		}
		end := p[len(p)-1].Norm
		ahead, n := 0, 0
		for _, e := range p {
			if e.Norm != end {
				ahead += len(e.Norm) + len(e.Spelling) + len(e.Value) + 32
			}
			n += len(e.Norm) + len(e.Spelling) + len(e.Value) + 32
		}
		isLast := i+1 == len(pieces)
		switch {
		case n < 1500 && !isLast:
			t.Fatalf("P23.2: of %s the piece %d has %d bytes", shown(told(l)), i, n)
		case ahead >= 1500:
			t.Fatalf("P23.2: of %s the piece %d has %d bytes ahead of its last Norm", shown(told(l)), i, ahead)
		case !isLast && pieces[i+1][0].Norm == end:
			t.Fatalf("P23.2: of %s the piece %d parts %s", shown(told(l)), i, end)
		}
	}
}

func TestLongLists(t *testing.T) {
	var l []api.Entry
	var snaps []int64
	for i := range 200000 {
		l = append(l, entry(fmt.Sprintf("%04d", i/100), int64(1000000-i), i%3%2, "x"))
		snaps = append(snaps, int64(1000000-i*7%400000))
	}
	left := Entries(l, snaps, true)
	if len(left) < 100000 || len(left) >= len(l) {
		t.Errorf("P23.1: %d of %d are left", len(left), len(l))
	}
	if n := len(Entries(l, nil, false)); n != 2000 {
		t.Errorf("P23.1: %d of %d are left without snaps", n, len(l))
	}
	if one, two := Seen(l, 1000000), Seen(left, 1000000); !slices.Equal(one, two) || len(one) == 0 || len(one) == 2000 {
		t.Errorf("P23.1: %d are seen, and %d of those that are left", len(one), len(two))
	}
	wantPieces(t, l, Cut(l))
	deep := oneNorm("a", slices.Repeat([]int{40}, 200000)...)
	wantPieces(t, deep, Cut(deep))
	if n := len(Cut(slices.Repeat([]api.Entry{{Value: strings.Repeat("v", 1<<20)}}, 5000))); n != 1 {
		t.Errorf("P23.2: %d pieces of one Norm", n)
	}
}

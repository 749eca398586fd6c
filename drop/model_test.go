package drop

import (
	"cmp"
	"fmt"
	"math"
	"slices"
	"strconv"
	"strings"
	"testing"

	"incipit/api"
	"incipit/ikey"
)

// entry makes an entry of a spelling and a value that tell its mark.
func entry(norm string, seq int64, kind int, mark string) api.Entry {
	return api.Entry{Norm: norm, Seq: seq, Kind: kind, Spelling: norm + "'" + mark, Value: "v" + mark}
}

// list reads entries of a text: "a9 a5-" are a KPut and a KDel of a.
func list(text string) []api.Entry {
	var l []api.Entry
	for i, word := range strings.Fields(text) {
		place, isDel := strings.CutSuffix(word, "-")
		norm := strings.TrimRight(place, "0123456789")
		norm = strings.TrimSuffix(norm, "-")
		seq, err := strconv.ParseInt(place[len(norm):], 10, 64)
		if err != nil {
			panic(err)
		}
		kind := api.KPut
		if isDel {
			kind = api.KDel
		}
		l = append(l, entry(norm, seq, kind, fmt.Sprint(i)))
	}
	return l
}

// told writes entries as list reads them.
func told(l []api.Entry) string {
	var words []string
	for _, e := range l {
		word := fmt.Sprint(e.Norm, e.Seq)
		if e.Kind == api.KDel {
			word += "-"
		}
		words = append(words, word)
	}
	return strings.Join(words, " ")
}

// shown tells the beginning of what may be long, or has any bytes.
func shown(x any) string {
	return fmt.Sprintf("%.600q", fmt.Sprintf("%+v", x))
}

// compare puts entries in order by ikey's words.
func compare(a, b api.Entry) int {
	return cmp.Or(strings.Compare(a.Norm, b.Norm), cmp.Compare(b.Seq, a.Seq), cmp.Compare(b.Kind, a.Kind))
}

// isHidden tells of l[i] whether an earlier one with a greater Seq of its Norm
// stands, so that no number of snaps is at least its Seq and below that one's.
func isHidden(l []api.Entry, i int, snaps []int64) bool {
	return slices.ContainsFunc(l[:i], func(f api.Entry) bool {
		return f.Norm == l[i].Norm && f.Seq > l[i].Seq && !slices.ContainsFunc(snaps, func(n int64) bool {
			return n >= l[i].Seq && n < f.Seq
		})
	})
}

// isIdle tells of l[i], where l are those that are left, whether it is a KDel, not
// below which one of its Norm stands, and no number of snaps is below its Seq.
func isIdle(l []api.Entry, i int, snaps []int64) bool {
	e := l[i]
	if e.Kind != api.KDel {
		return false
	}
	for _, f := range l[i+1:] {
		if f.Norm == e.Norm {
			return false
		}
	}
	for _, n := range snaps {
		if n < e.Seq {
			return false
		}
	}
	return true
}

// modelEntries tells what Entries should, an entry by an entry.
func modelEntries(l []api.Entry, snaps []int64, bottom bool) []api.Entry {
	var left, busy []api.Entry
	for i, e := range l {
		if !isHidden(l, i, snaps) {
			left = append(left, e)
		}
	}
	for i, e := range left {
		if !isIdle(left, i, snaps) {
			busy = append(busy, e)
		}
	}
	if bottom {
		return busy
	}
	return left
}

// modelSeen tells what Seen should: of each KPut it asks whether it is the first.
func modelSeen(l []api.Entry, seq int64) []api.Entry {
	var seen []api.Entry
	for i, e := range l {
		first := slices.IndexFunc(l, func(f api.Entry) bool { return f.Norm == e.Norm && f.Seq <= seq })
		if first == i && e.Kind == api.KPut {
			seen = append(seen, e)
		}
	}
	return seen
}

// mayEnd tells whether the first n of l may be a piece that others stand behind.
func mayEnd(l []api.Entry, n int) bool {
	sum := 0
	for _, e := range l[:n] {
		sum += 32 + len(e.Norm+e.Spelling+e.Value)
		if slices.ContainsFunc(l[n:], func(f api.Entry) bool { return f.Norm == e.Norm }) {
			return false
		}
	}
	return sum >= 1500
}

// modelCut tells what Cut should: it tries each length from the least on.
func modelCut(l []api.Entry) [][]api.Entry {
	var pieces [][]api.Entry
	for len(l) > 0 {
		n := 1
		for n < len(l) && !mayEnd(l, n) {
			n++
		}
		pieces = append(pieces, l[:n])
		l = l[n:]
	}
	return pieces
}

// alike tells whether pieces have the same entries.
func alike(a, b [][]api.Entry) bool {
	return slices.EqualFunc(a, b, func(p, q []api.Entry) bool { return slices.Equal(p, q) })
}

// wantLeft fails unless Entries leaves what the model does, twice, and changes
// neither what went in nor what it need not; it tells what is left.
func wantLeft(t *testing.T, l []api.Entry, snaps []int64, bottom bool) []api.Entry {
	t.Helper()
	wasL, wasSnaps := slices.Clone(l), slices.Clone(snaps)
	want := modelEntries(l, snaps, bottom)
	left := Entries(l, snaps, bottom)
	again := Entries(l, snaps, bottom)
	switch {
	case !slices.Equal(left, want):
		t.Fatalf("P23.1: Entries of %s by %v, %t: %s, not %s", shown(told(l)), snaps, bottom, shown(told(left)), shown(told(want)))
	case !slices.Equal(again, want):
		t.Fatalf("P0.5: Entries of %s by %v, %t once more: %s, not %s", shown(told(l)), snaps, bottom, shown(told(again)), shown(told(want)))
	case !slices.Equal(l, wasL) || !slices.Equal(snaps, wasSnaps):
		t.Fatalf("P0.3: Entries of %s by %v, %t changes what went in", shown(told(wasL)), wasSnaps, bottom)
	}
	if more := Entries(left, snaps, bottom); !slices.Equal(more, left) {
		t.Fatalf("P23.1: Entries of its own answer %s by %v, %t: %s", shown(told(left)), snaps, bottom, shown(told(more)))
	}
	wantSameSeen(t, l, left, snaps)
	return left
}

// wantSameSeen fails unless what is left of l looks as l does, by each number of
// snaps and by numbers that are not below any Seq.
func wantSameSeen(t *testing.T, l, left []api.Entry, snaps []int64) {
	t.Helper()
	if !ikey.Sorted(l) || !ikey.Sorted(left) {
		t.Fatalf("P23.1: %s, of which is left %s: not sorted", shown(told(l)), shown(told(left)))
	}
	most := int64(math.MinInt64)
	for _, e := range l {
		most = max(most, e.Seq)
	}
	numbers := append([]int64{most, math.MaxInt64}, snaps...)
	if most < math.MaxInt64 {
		numbers = append(numbers, most+1)
	}
	for _, n := range numbers {
		if one, two := Seen(l, n), Seen(left, n); !slices.Equal(one, two) {
			t.Fatalf("P23.1: of %s is left %s: Seen by %d of %v: %s, not %s", shown(told(l)), shown(told(left)), n, snaps, shown(told(two)), shown(told(one)))
		}
	}
}

// wantEntries fails unless Entries leaves just those, as the model does.
func wantEntries(t *testing.T, what, l string, snaps []int64, bottom bool, want string) {
	t.Helper()
	if left := wantLeft(t, list(l), snaps, bottom); told(left) != want {
		t.Errorf("P23.1: %s: of %s by %v, %t is left %s, not %s", what, l, snaps, bottom, told(left), want)
	}
}

// wantSeen fails unless Seen tells what the model does, twice; it tells that.
func wantSeen(t *testing.T, l []api.Entry, seq int64) []api.Entry {
	t.Helper()
	was, want := slices.Clone(l), modelSeen(l, seq)
	for range 2 {
		if seen := Seen(l, seq); !slices.Equal(seen, want) {
			t.Fatalf("P23.1: Seen of %s by %d: %s, not %s", shown(told(l)), seq, shown(told(seen)), shown(told(want)))
		}
	}
	if !slices.Equal(l, was) {
		t.Fatalf("P0.3: Seen of %s by %d changes what went in", shown(told(was)), seq)
	}
	return want
}

// wantCut fails unless Cut tells the model's pieces, twice; it tells how many
// entries each has.
func wantCut(t *testing.T, what string, l []api.Entry) []int {
	t.Helper()
	was, want := slices.Clone(l), modelCut(l)
	for range 2 {
		if pieces := Cut(l); !alike(pieces, want) {
			t.Fatalf("P23.2: %s: Cut of %s: lengths %v, not %v", what, shown(told(l)), lengths(pieces), lengths(want))
		}
	}
	if !slices.Equal(l, was) {
		t.Fatalf("P0.3: %s: Cut of %s changes what went in", what, shown(told(was)))
	}
	return lengths(want)
}

// lengths tells how many entries each piece has.
func lengths(pieces [][]api.Entry) []int {
	var l []int
	for _, p := range pieces {
		l = append(l, len(p))
	}
	return l
}

// permuted does so for each order of numbers.
func permuted(l []int64, do func([]int64)) {
	if len(l) == 0 {
		do(nil)
	}
	for i := range l {
		rest := slices.Concat(l[:i], l[i+1:])
		permuted(rest, func(order []int64) { do(append(slices.Clone(order), l[i])) })
	}
}

// subset tells those of l that the bits of n choose.
func subset(l []int64, n int) []int64 {
	var some []int64
	for i, x := range l {
		if n>>i&1 == 1 {
			some = append(some, x)
		}
	}
	return some
}

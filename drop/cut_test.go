package drop

import (
	"fmt"
	"slices"
	"strings"
	"testing"

	"incipit/api"
)

// sized makes an entry that counts so many bytes in all: 32 and twice its Norm's at
// least.
func sized(norm string, seq int64, bytes int) api.Entry {
	e := api.Entry{Norm: norm, Seq: seq, Kind: api.KPut, Spelling: norm}
	e.Value = strings.Repeat("v", bytes-32-len(e.Norm)-len(e.Spelling))
	return e
}

// sizedList makes entries of those sizes, with a Norm of its own for each.
func sizedList(sizes ...int) []api.Entry {
	var l []api.Entry
	for i, n := range sizes {
		l = append(l, sized(string(rune('a'+i)), 9, n))
	}
	return l
}

// oneNorm makes versions of one Norm of those sizes.
func oneNorm(norm string, sizes ...int) []api.Entry {
	var l []api.Entry
	for i, n := range sizes {
		l = append(l, sized(norm, int64(900-i), n))
	}
	return l
}

// wantLengths fails unless Cut's pieces have so many entries each.
func wantLengths(t *testing.T, what string, l []api.Entry, want ...int) {
	t.Helper()
	if got := wantCut(t, what, l); !slices.Equal(got, want) {
		t.Errorf("P23.2: %s: pieces of %v entries, not %v", what, got, want)
	}
}

func TestCutOfNone(t *testing.T) {
	for _, l := range [][]api.Entry{nil, {}, list("a9")[:0]} {
		if n := len(Cut(l)); n != 0 {
			t.Errorf("P23.2: %d pieces of none", n)
		}
	}
}

func TestCutOfOne(t *testing.T) {
	wantLengths(t, "a zero one", []api.Entry{{}}, 1)
	for _, n := range []int{35, 100, 1499, 1500, 1501, 3000, 1 << 20} {
		wantLengths(t, fmt.Sprint(n, " bytes"), sizedList(n), 1)
	}
}

func TestCutAtAChangeOfNorm(t *testing.T) {
	for _, x := range []struct {
		sizes []int
		want  []int
	}{
		{[]int{1499, 35}, []int{2}},
		{[]int{1500, 35}, []int{1, 1}},
		{[]int{1501, 35}, []int{1, 1}},
		{[]int{700, 799, 35}, []int{3}},
		{[]int{700, 800, 35}, []int{2, 1}},
		{[]int{700, 801, 35}, []int{2, 1}},
		{[]int{500, 500, 499, 35, 35}, []int{4, 1}},
		{[]int{500, 500, 500, 35, 35}, []int{3, 2}},
		{[]int{500, 500, 501, 35, 35}, []int{3, 2}},
		{[]int{1464, 35, 35}, []int{3}},
		{[]int{1465, 35, 35}, []int{2, 1}},
		{[]int{1466, 35, 35}, []int{2, 1}},
		{[]int{1499, 9000, 35}, []int{2, 1}},
		{[]int{9000, 9000, 9000}, []int{1, 1, 1}},
		{[]int{1500, 1500, 1500}, []int{1, 1, 1}},
		{[]int{1499, 1499, 1499, 1499}, []int{2, 2}},
		{[]int{1499, 1499, 1499, 1499, 1499}, []int{2, 2, 1}},
		{[]int{3000, 40, 40, 1500, 40}, []int{1, 3, 1}},
	} {
		wantLengths(t, fmt.Sprint("sizes ", x.sizes), sizedList(x.sizes...), x.want...)
	}
}

func TestCutDoesNotPartANorm(t *testing.T) {
	for _, x := range []struct {
		what string
		l    []api.Entry
		want []int
	}{
		{"1499 within", slices.Concat(oneNorm("a", 1000, 499, 35), oneNorm("b", 35)), []int{3, 1}},
		{"1500 within", slices.Concat(oneNorm("a", 1000, 500, 35), oneNorm("b", 35)), []int{3, 1}},
		{"1501 within", slices.Concat(oneNorm("a", 1000, 501, 35), oneNorm("b", 35)), []int{3, 1}},
		{"1499 at the change", slices.Concat(oneNorm("a", 1000, 499), oneNorm("b", 35, 35)), []int{4}},
		{"1500 at the change", slices.Concat(oneNorm("a", 1000, 500), oneNorm("b", 35, 35)), []int{2, 2}},
		{"1501 at the change", slices.Concat(oneNorm("a", 1000, 501), oneNorm("b", 35, 35)), []int{2, 2}},
		{"1499, then it goes on", slices.Concat(oneNorm("a", 1499), oneNorm("b", 35, 35, 35), oneNorm("c", 35)), []int{4, 1}},
		{"the next Norm brings it over", slices.Concat(oneNorm("a", 800, 600), oneNorm("b", 200, 5000, 70), oneNorm("c", 35, 35)), []int{5, 2}},
		{"one Norm alone", oneNorm("a", 700, 700, 700, 700, 700, 700), []int{6}},
		{"one Norm alone, each great", oneNorm("a", 7000, 7000, 7000), []int{3}},
		{"each of two", slices.Concat(oneNorm("a", 1500, 1500), oneNorm("b", 1500, 1500)), []int{2, 2}},
		{"each of two, of 1,499 the first", slices.Concat(oneNorm("a", 35, 1464), oneNorm("b", 1464, 36)), []int{4}},
		{"a Norm that begins the next", slices.Concat(oneNorm("a", 700, 800), oneNorm("aa", 40, 40)), []int{2, 2}},
		{"two forms of one look", slices.Concat(oneNorm("e\u0301", 700, 800), oneNorm("\u00e9", 40, 40)), []int{2, 2}},
		{"the empty Norm", slices.Concat(oneNorm("", 700, 800, 32), oneNorm("\x00", 40)), []int{3, 1}},
	} {
		wantLengths(t, x.what, x.l, x.want...)
	}
}

func TestCutOfANormWithMany(t *testing.T) {
	many := oneNorm("m", slices.Repeat([]int{100}, 80)...)
	wantLengths(t, "alone", many, 80)
	wantLengths(t, "one ahead", append(oneNorm("a", 35), many...), 81)
	wantLengths(t, "just as many as go ahead", append(oneNorm("a", 1000, 500), many...), 2, 80)
	wantLengths(t, "one fewer byte ahead", append(oneNorm("a", 1000, 499), many...), 82)
	wantLengths(t, "one behind", append(slices.Clone(many), oneNorm("z", 35)...), 80, 1)
	wantLengths(t, "many behind", slices.Concat(many, oneNorm("n", 1499), oneNorm("o", 40), oneNorm("p", 40)), 80, 2, 1)
}

func TestCutLastPiece(t *testing.T) {
	wantLengths(t, "fewer", sizedList(1500, 35), 1, 1)
	wantLengths(t, "one fewer", sizedList(1500, 1499), 1, 1)
	wantLengths(t, "just as many", sizedList(1500, 1500), 1, 1)
	wantLengths(t, "more", sizedList(1500, 1501), 1, 1)
	wantLengths(t, "just as many, of two", sizedList(1500, 1499, 35), 1, 2)
	wantLengths(t, "of several, fewer", sizedList(1500, 400, 400, 400), 1, 3)
	wantLengths(t, "of several, just as many", sizedList(1500, 500, 500, 500), 1, 3)
	wantLengths(t, "the only one, just as many", sizedList(500, 500, 500), 3)
	wantLengths(t, "within one Norm", slices.Concat(oneNorm("a", 1500), oneNorm("b", 500, 900)), 1, 2)
}

func TestCutCountsWhatAnEntryHas(t *testing.T) {
	full := strings.Repeat("x", 1500-32)
	accent, last := strings.Repeat("\u00e9", 734), api.Entry{Norm: "\xff"}
	for what, e := range map[string]api.Entry{
		"the Norm": {Norm: full}, "the Spelling": {Spelling: full}, "the Value": {Value: full},
		"all three":            {Norm: full[:400], Spelling: full[:500], Value: full[:568]},
		"bytes of the Norm":    {Norm: accent},
		"bytes of a Spelling":  {Spelling: accent},
		"bytes of a Value":     {Value: accent},
		"bytes that are none":  {Value: strings.Repeat("\xff\x00", 734)},
		"a KDel":               {Norm: full[:734], Spelling: full[:734], Kind: api.KDel},
		"neither Seq nor Kind": {Norm: full, Seq: 1 << 50, Kind: 1 << 40},
	} {
		wantLengths(t, what, []api.Entry{e, last}, 1, 1)
		for _, text := range []*string{&e.Norm, &e.Spelling, &e.Value} {
			if was := *text; was != "" {
				*text = was[1:]
				wantLengths(t, what+", one fewer", []api.Entry{e, last}, 2)
				*text = was
			}
		}
	}
}

func TestCutCounts32ForEach(t *testing.T) {
	// 46 zero entries have 1,472 bytes, 47 have 1,504.
	zeros := make([]api.Entry, 47)
	last := api.Entry{Norm: "a"}
	wantLengths(t, "46", append(zeros[:46:46], last), 47)
	wantLengths(t, "47", append(zeros[:47:47], last), 47, 1)
	zeros[20].Value = "123456789012345678901234567"
	wantLengths(t, "46, and one byte too few", append(zeros[:46:46], last), 47)
	zeros[20].Value += "8"
	wantLengths(t, "46, and just enough", append(zeros[:46:46], last), 46, 1)
}

func TestCutOfAllShortLists(t *testing.T) {
	sizes := []int{40, 750, 1460, 1499, 1500, 1501}
	kinds := 2 * len(sizes)
	for n := range kinds * kinds * kinds * kinds {
		var l []api.Entry
		norm := 'a'
		for i, m := 0, n; i < 4; i, m = i+1, m/kinds {
			norm += rune(m % 2)
			l = append(l, sized(string(norm), int64(90-i), sizes[m%kinds/2]))
		}
		wantCut(t, "four", l)
	}
}

func TestCutOfListsThatAreNotSorted(t *testing.T) {
	// A Norm that comes again is not parted either.
	a, b, c := sized("a", 9, 1500), sized("b", 8, 40), sized("c", 7, 1500)
	wantLengths(t, "falling", []api.Entry{c, b, a}, 1, 2)
	wantLengths(t, "one comes again", []api.Entry{a, b, a}, 3)
	wantLengths(t, "one comes again behind others", []api.Entry{a, c, b, c, a, b, c}, 7)
	wantLengths(t, "two come again", []api.Entry{a, b, a, c, c, sized("d", 1, 40)}, 3, 2, 1)
	wantLengths(t, "all alike", []api.Entry{a, a, a, a}, 4)
}

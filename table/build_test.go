package table

import (
	"fmt"
	"math"
	"math/rand/v2"
	"slices"
	"strings"
	"testing"

	"incipit/api"
	"incipit/bloom"
)

// wantRefused fails unless there is no table of l.
func wantRefused(t *testing.T, what string, l []api.Entry) {
	t.Helper()
	if b, err := Build(l); b != nil || err != api.ErrForm {
		t.Errorf("P17.1: %s: %d bytes, %d", what, len(b), err)
	}
}

// with is l with another entry at the place i.
func with(l []api.Entry, i int, change func(e *api.Entry)) []api.Entry {
	l = slices.Clone(l)
	change(&l[i])
	return l
}

func TestNoEntries(t *testing.T) {
	wantRefused(t, "nil", nil)
	wantRefused(t, "an empty list", []api.Entry{})
	wantRefused(t, "an empty list with spare room", numbered(3)[:0])
}

func TestEntriesThatAreNotSorted(t *testing.T) {
	for name, l := range lists() {
		for i := 1; i < len(l); i += 1 + i/20 {
			swapped := slices.Clone(l)
			swapped[i-1], swapped[i] = l[i], l[i-1]
			wantRefused(t, fmt.Sprint(name, ", swapped at ", i), swapped)
			wantRefused(t, fmt.Sprint(name, ", twice at ", i), slices.Insert(slices.Clone(l), i, l[i]))
			wantRefused(t, fmt.Sprint(name, ", the first again at ", i), slices.Insert(slices.Clone(l), i+1, l[0]))
		}
	}
	a, b := put("a", 2, ""), put("b", 1, "")
	wantRefused(t, "Norms falling", []api.Entry{b, a})
	wantRefused(t, "Norms falling by a byte behind", []api.Entry{put("a\x00", 2, ""), put("a", 2, "")})
	wantRefused(t, "Norms by bytes, not by signs", []api.Entry{put("\x80", 2, ""), put("\x7f", 2, "")})
	wantRefused(t, "Seqs rising", []api.Entry{put("a", 1, ""), put("a", 2, "")})
	wantRefused(t, "Seqs rising to the greatest", []api.Entry{put("a", 1, ""), put("a", api.MaxSeq, "")})
	wantRefused(t, "Kinds rising", []api.Entry{del("a", 1), put("a", 1, "")})
	wantRefused(t, "the last two falling", append(numbered(50), put("k0001", 1, "")))
}

func TestTwoOfOneNormAndSeq(t *testing.T) {
	wantRefused(t, "one entry twice", []api.Entry{put("a", 1, "v"), put("a", 1, "v")})
	wantRefused(t, "two of one Kind", []api.Entry{put("a", 1, "v"), put("a", 1, "w")})
	wantRefused(t, "two deletions", []api.Entry{del("a", 1), del("a", 1)})
	// These are sorted, by their Kinds falling.
	wantRefused(t, "two of two Kinds", []api.Entry{put("a", 1, "v"), del("a", 1)})
	wantRefused(t, "two of two Kinds and no Norm", []api.Entry{{Seq: 9, Kind: api.KPut}, {Seq: 9, Kind: api.KDel}})
	for name, l := range lists() {
		for i, e := range l {
			if i > 30 || e.Kind != api.KPut {
				continue
			}
			both := slices.Insert(slices.Clone(l), i+1, del(e.Norm, e.Seq))
			wantRefused(t, fmt.Sprint(name, ", two of two Kinds at ", i), both)
		}
	}
	// Each of these has a Norm or a Seq of its own.
	wantTable(t, "one Seq of two Norms", opened(t, "one Seq", []api.Entry{put("a", 1, ""), del("b", 1)}), []api.Entry{put("a", 1, ""), del("b", 1)})
	wantTable(t, "two Seqs of one Norm", opened(t, "two Seqs", []api.Entry{put("a", 2, ""), del("a", 1)}), []api.Entry{put("a", 2, ""), del("a", 1)})
}

func TestKindsAndNumbersAndValues(t *testing.T) {
	for name, l := range lists() {
		for i := 0; i < len(l); i += 1 + i/10 {
			at := fmt.Sprint(name, ", at ", i)
			for _, kind := range []int{-1, 2, 3, 128, 256, 257, -256, 1 << 32, 1<<32 + 1, math.MaxInt, math.MinInt, math.MinInt + 1} {
				wantRefused(t, fmt.Sprint(at, ": the Kind ", kind), with(l, i, func(e *api.Entry) { e.Kind, e.Value = kind, "" }))
			}
			wantRefused(t, at+": a deletion's value", with(l, i, func(e *api.Entry) { e.Kind, e.Value = api.KDel, "v" }))
			wantRefused(t, at+": a deletion's zero byte", with(l, i, func(e *api.Entry) { e.Kind, e.Value = api.KDel, "\x00" }))
		}
		// So these stay sorted.
		for _, seq := range []int64{0, -1, -api.MaxSeq, math.MinInt64} {
			wantRefused(t, fmt.Sprint(name, ": the last Seq ", seq), with(l, len(l)-1, func(e *api.Entry) { e.Seq = seq }))
		}
		for _, seq := range []int64{api.MaxSeq + 1, api.MaxSeq * 2, 1 << 51, math.MaxInt64} {
			wantRefused(t, fmt.Sprint(name, ": the first Seq ", seq), with(l, 0, func(e *api.Entry) { e.Seq = seq }))
		}
	}
	for _, seq := range []int64{1, 2, 127, 128, 1 << 32, api.MaxSeq - 1, api.MaxSeq} {
		l := []api.Entry{put("a", seq, "v"), del("b", seq)}
		wantTable(t, fmt.Sprint("the Seq ", seq), opened(t, fmt.Sprint("the Seq ", seq), l), l)
	}
}

func TestListsOfFewFieldsAsTheModel(t *testing.T) {
	r := rand.New(rand.NewPCG(17, 1))
	norms := []string{"", "\x00", "a", "a", "a\x00", "b", "\xff"}
	seqs := []int64{0, 1, 1, 2, 3, api.MaxSeq, api.MaxSeq + 1}
	kinds := []int{0, 1, 1, 1, 0, 2}
	values := []string{"", "", "", "v"}
	right := 0
	for range 60000 {
		var l []api.Entry
		for range r.IntN(4) {
			l = append(l, api.Entry{Norm: norms[r.IntN(len(norms))], Seq: seqs[r.IntN(len(seqs))], Kind: kinds[r.IntN(len(kinds))], Value: values[r.IntN(len(values))]})
		}
		b, err := Build(l)
		if modelRight(l) {
			right++
			x, err2 := Open(b)
			if err != api.OK || err2 != api.OK {
				t.Fatalf("P17.1: %v: %d, %d", l, err, err2)
			}
			wantWhole(t, fmt.Sprint(l), x, l)
		} else if err != api.ErrForm || b != nil {
			t.Fatalf("P17.1: %v: %d bytes, %d", l, len(b), err)
		}
	}
	if right < 1000 {
		t.Errorf("only %d lists have a table", right)
	}
}

func TestWhatIsHandedInIsNotChanged(t *testing.T) {
	for name, l := range lists() {
		room := append(slices.Clone(l), numbered(3)...)
		kept := slices.Clone(room)
		b := built(t, name, room[:len(l)])
		if _, err := Build(room[:0]); err != api.ErrForm {
			t.Fatalf("P17.1: %s: no entries: %d", name, err)
		}
		Build(append([]api.Entry{del("zz", 1)}, room...))
		if !slices.Equal(room, kept) {
			t.Errorf("P0.3: %s: Build changes its list", name)
		}
		again := built(t, name, room[:len(l)])
		if string(again) != string(b) {
			t.Errorf("P0.5: %s: Build tells other bytes of the same list", name)
		}
		fill(b)
		if string(built(t, name, l)) != string(again) {
			t.Errorf("P0.3: %s: two answers of Build share memory", name)
		}
	}
}

// fill writes other bytes into all of b, its spare room too.
func fill(b []byte) {
	b = b[:cap(b)]
	for i := range b {
		b[i] ^= 0xa5
	}
}

// wantFew fails unless a table of l has at most as many bytes as it may have.
func wantFew(t *testing.T, what string, l []api.Entry) {
	t.Helper()
	if b, most := built(t, what, l), mostBytes(l); len(b) > most {
		t.Errorf("P17.1: %s: %d bytes, more than %d", what, len(b), most)
	}
}

func TestBytesOfTables(t *testing.T) {
	for name, l := range lists() {
		wantFew(t, name, l)
	}
	for _, n := range []int{1, 2, 3, 7, 50, 1000, 5000} {
		var empty, tiny []api.Entry
		for i := range n {
			empty = append(empty, api.Entry{Seq: api.MaxSeq - int64(i), Kind: api.KPut})
			tiny = append(tiny, api.Entry{Norm: string([]byte{byte(i >> 8), byte(i)}), Seq: api.MaxSeq})
		}
		wantFew(t, fmt.Sprint(n, " empty ones"), empty)
		wantFew(t, fmt.Sprint(n, " tiny ones"), tiny)
	}
	wantFew(t, "a value of 20000 bytes", []api.Entry{put("a", 1, strings.Repeat("v", 20000))})
	wantFew(t, "the greatest value and key", []api.Entry{put(strings.Repeat("k", api.MaxKey), 1, strings.Repeat("v", api.MaxValue))})
}

func TestBytesOfTablesOfLongTexts(t *testing.T) {
	// The lengths go over those at which a block ends, and a number takes another
	// byte.
	for n := 0; n < 6000; n += 1 + n/40 {
		for _, c := range []string{"\x00", "\xff", "n"} {
			text := strings.Repeat(c, n)
			for many := range 6 {
				var apart, alike, spelled, valued []api.Entry
				for i := range many + 1 {
					seq := api.MaxSeq - int64(i)
					apart = append(apart, api.Entry{Norm: text + string(rune('a'+i)), Seq: seq, Kind: api.KPut})
					alike = append(alike, api.Entry{Norm: text, Seq: seq})
					spelled = append(spelled, api.Entry{Norm: string(rune('a' + i)), Seq: seq, Spelling: text})
					valued = append(valued, api.Entry{Seq: seq, Kind: api.KPut, Value: text})
				}
				what := fmt.Sprintf("%d entries with %d times %q", many+1, n, c)
				wantFew(t, "Norms: "+what, apart)
				wantFew(t, "one Norm: "+what, alike)
				wantFew(t, "Spellings: "+what, spelled)
				wantFew(t, "Values: "+what, valued)
			}
		}
	}
}

func TestBytesOfTablesOfAnyLengths(t *testing.T) {
	r := rand.New(rand.NewPCG(17, 2))
	for range 3000 {
		l := anyEntries(r, 1+r.IntN(30))
		wantFew(t, fmt.Sprint(len(l), " entries of any lengths"), l)
	}
}

// anyEntries are n entries, with texts of any lengths, of which there is a table.
func anyEntries(r *rand.Rand, n int) []api.Entry {
	text := func() string {
		most := []int{1, 4, 30, 190, 210, 700}[r.IntN(6)]
		return strings.Repeat(string([]byte{byte(r.IntN(256))}), r.IntN(most))
	}
	var l []api.Entry
	norm := ""
	for i := range n {
		// So that Norms rise, or stay.
		if r.IntN(3) > 0 {
			norm = string([]byte{byte(i)}) + text()
		}
		e := api.Entry{Norm: norm, Seq: int64(2*(n-i)) + r.Int64N(2), Kind: r.IntN(2), Spelling: text()}
		if e.Kind == api.KPut {
			e.Value = text()
		}
		l = append(l, e)
	}
	return l
}

func TestHowGreatBlocksAre(t *testing.T) {
	for name, l := range lists() {
		x := opened(t, name, l)
		most := 0
		for _, e := range l {
			most = max(most, len(e.Norm)+len(e.Spelling)+len(e.Value))
		}
		for i, p := range x.parts {
			if last := i == len(x.parts)-1; !last && p.size < api.BlockSize {
				t.Errorf("P17.1: %s: the block %d has only %d bytes", name, i, p.size)
			}
			if p.size > api.BlockSize+most+60 {
				t.Errorf("P17.1: %s: the block %d has %d bytes", name, i, p.size)
			}
		}
	}
}

func TestFiltersHaveEachNormOnce(t *testing.T) {
	for name, l := range lists() {
		x := opened(t, name, l)
		there := map[string]int{}
		for _, e := range l {
			there[e.Norm]++
			if !bloom.May(x.filter, e.Norm) {
				t.Errorf("P17.1: %s: the filter hides %.40q", name, e.Norm)
			}
		}
		var norms []string
		for norm := range there {
			norms = append(norms, norm)
		}
		if string(x.filter) != string(bloom.Make(norms)) {
			t.Errorf("P17.1: %s: the filter is not that of its %d Norms", name, len(norms))
		}
	}
}

func TestEndsHaveMagic(t *testing.T) {
	for name, l := range lists() {
		b := built(t, name, l)
		if !strings.Contains(string(b[len(b)-endBytes:]), "icni") {
			t.Errorf("P17.1: %s: its end is %x", name, b[len(b)-endBytes:])
		}
	}
}

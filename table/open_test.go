package table

import (
	"fmt"
	"math"
	"math/rand/v2"
	"slices"
	"testing"

	"incipit/api"
	"incipit/block"
)

func TestTables(t *testing.T) {
	for name, l := range lists() {
		wantTable(t, name, opened(t, name, l), l)
	}
}

func TestTablesOfAnyEntries(t *testing.T) {
	r := rand.New(rand.NewPCG(17, 3))
	for range 150 {
		l := anyEntries(r, 1+r.IntN(40))
		wantTable(t, fmt.Sprint(len(l), " entries of any lengths"), opened(t, "any entries", l), l)
	}
}

func TestTablesOfEachLength(t *testing.T) {
	all, many := numbered(60), versions("v", 60)
	for n := 1; n <= 60; n++ {
		wantTable(t, fmt.Sprint(n, " entries"), opened(t, fmt.Sprint(n, " entries"), all[:n]), all[:n])
		wantTable(t, fmt.Sprint(n, " versions"), opened(t, fmt.Sprint(n, " versions"), many[:n]), many[:n])
	}
}

func TestHowManyBlocks(t *testing.T) {
	for _, c := range []struct {
		name        string
		l           []api.Entry
		least, most int
	}{
		{"one entry", numbered(1), 1, 1},
		{"two entries", numbered(2), 1, 1},
		{"a great value", great()[:1], 1, 1},
		{"two great values", great()[:2], 2, 2},
		{"300 entries", numbered(300), 20, 80},
		{"120 versions", versions("norm", 120), 5, 30},
		{"mixed", mixed(), 10, 60},
	} {
		if n := opened(t, c.name, c.l).Blocks(); n < c.least || n > c.most {
			t.Errorf("P17.2: %s: %d blocks", c.name, n)
		}
	}
}

func TestVersionsOverBlocks(t *testing.T) {
	l := slices.Concat([]api.Entry{put("a", 1, ""), put("norm", 1<<40, "first")}, versions("norm", 200), []api.Entry{put("normal", 5, ""), del("z", 1)})
	x := opened(t, "versions", l)
	if x.Blocks() < 5 {
		t.Fatalf("P17.2: versions over %d blocks", x.Blocks())
	}
	wantTable(t, "versions over blocks", x, l)
	// The numbers that lie between the last of a block and the first of the next.
	for i := 1; i < len(x.parts); i++ {
		last := x.parts[i-1].last
		for seq := last.Seq - 4; seq <= last.Seq+4; seq++ {
			e, ok, err := x.Get(last.Norm, seq)
			if want, there := modelGet(l, last.Norm, seq); e != want || ok != there || err != api.OK {
				t.Errorf("P17.2: Get at the end of the block %d: %v, %v, %d", i-1, e, ok, err)
			}
		}
	}
}

func TestEachCallTwiceAndInAnyOrder(t *testing.T) {
	for name, l := range small() {
		x := opened(t, name, l)
		for range 2 {
			wantFroms(t, name, x, l, []string{"n", "", "k0011"})
			wantWhole(t, name, x, l)
			wantGets(t, name, x, l, []string{l[len(l)-1].Norm, l[0].Norm, "none"})
		}
	}
}

func TestOpenDoesNotKeepItsBytes(t *testing.T) {
	for name, l := range lists() {
		b := built(t, name, l)
		room := append(slices.Clone(b), 1, 2, 3)
		kept := slices.Clone(room)
		x, err := Open(room[:len(b)])
		if err != api.OK || !slices.Equal(room, kept) {
			t.Fatalf("P0.3: %s: Open changes its bytes, or answers %d", name, err)
		}
		fill(room)
		wantWhole(t, name+", its bytes overwritten", x, l)
		wantGets(t, name+", its bytes overwritten", x, l, []string{l[0].Norm, l[len(l)-1].Norm, "none"})
		x.All()
		x.From("")
		x.Get(l[0].Norm, api.MaxSeq)
		fill(room)
		if !slices.Equal(room, kept) {
			t.Errorf("P0.3: %s: a call changes the bytes of Open", name)
		}
		// A filter of such bytes would rule out nearly all.
		for i := range room {
			room[i] = 6
		}
		wantTable(t, name+", its bytes all alike", x, l)
	}
}

// spoil writes other entries into all of l, its spare room too.
func spoil(l []api.Entry) {
	l = l[:cap(l)]
	for i := range l {
		l[i] = api.Entry{Norm: "other", Seq: -7, Kind: 9, Spelling: "other", Value: "other"}
	}
}

func TestAnswersAreNewMemory(t *testing.T) {
	for name, l := range lists() {
		x := opened(t, name, l)
		middle := l[len(l)/2].Norm
		all, _ := x.All()
		again, _ := x.All()
		from, _ := x.From(middle)
		spoil(all)
		if !slices.Equal(again, l) || !slices.Equal(from, modelFrom(l, middle)) {
			t.Errorf("P0.3: %s: All shares memory with another answer", name)
		}
		spoil(from)
		if !slices.Equal(again, l) {
			t.Errorf("P0.3: %s: From shares memory with another answer", name)
		}
		_ = append(again[:0], all...)
		wantTable(t, name+", its answers overwritten", x, l)
	}
}

func TestTwoTables(t *testing.T) {
	a, b := opened(t, "a", numbered(40)), opened(t, "b", versions("k0004", 40))
	wantTable(t, "one of two tables", a, numbered(40))
	wantTable(t, "the other of two tables", b, versions("k0004", 40))
	bytes := built(t, "twice", mixed())
	c, _ := Open(bytes)
	d, _ := Open(bytes)
	all, _ := c.All()
	spoil(all)
	wantTable(t, "bytes that are open twice", d, mixed())
}

func TestGetsOfWhatTheFilterRulesOutReadNoBlock(t *testing.T) {
	x := opened(t, "300 entries", numbered(300))
	fill(x.blocks)
	ruledOut := 0
	for i := range 1000 {
		norm := fmt.Sprint("none ", i)
		e, ok, err := x.Get(norm, api.MaxSeq)
		if ok || e != (api.Entry{}) || err != api.OK && err != api.ErrCorrupt {
			t.Fatalf("P17.2: Get(%q) of spoilt blocks: %v, %v, %d", norm, e, ok, err)
		}
		if err == api.OK {
			ruledOut++
		}
	}
	// "none" stands behind all; "k" among them.
	for i := range 300 {
		if _, _, err := x.Get(fmt.Sprintf("k%04d", 2*i+1), api.MaxSeq); err == api.OK {
			ruledOut++
		}
		if _, ok, err := x.Get(fmt.Sprintf("k%04d", 2*i), api.MaxSeq); ok || err != api.ErrCorrupt {
			t.Fatalf("P17.2: Get of what stands in a spoilt block: %v, %d", ok, err)
		}
	}
	if ruledOut < 1250 {
		t.Errorf("P17.2: only %d of 1300 Norms that are not there are ruled out", ruledOut)
	}
}

func TestANilTable(t *testing.T) {
	for _, x := range []*Table{nil, {}} {
		for _, norm := range []string{"", "a", "\xff"} {
			for _, seq := range []int64{math.MinInt64, 0, 1, api.MaxSeq, math.MaxInt64} {
				if e, ok, err := x.Get(norm, seq); e != (api.Entry{}) || ok || err != api.ErrClosed {
					t.Errorf("P17.2: Get of a table that is not open: %v, %v, %d", e, ok, err)
				}
			}
			if l, err := x.From(norm); len(l) != 0 || err != api.ErrClosed {
				t.Errorf("P17.2: From of a table that is not open: %v, %d", l, err)
			}
		}
		if l, err := x.All(); len(l) != 0 || err != api.ErrClosed {
			t.Errorf("P17.2: All of a table that is not open: %v, %d", l, err)
		}
		if x.Len() != 0 || x.Blocks() != 0 {
			t.Errorf("P17.2: a table that is not open: Len %d, %d blocks", x.Len(), x.Blocks())
		}
	}
}

func TestRowsOfBlocks(t *testing.T) {
	// Each entry is in a row of its Norm, and no Norm has two rows of a block.
	for name, l := range lists() {
		x := opened(t, name, l)
		many := 0
		for i, p := range x.parts {
			b, ok := unseal(x.blocks[p.at : p.at+p.size])
			rows, err := block.Read(b)
			if !ok || err != api.OK {
				t.Fatalf("P17.1: %s: the block %d is none: %v, %d", name, i, ok, err)
			}
			for _, row := range rows {
				some, ok := getVersions(row)
				if !ok || len(some) == 0 {
					t.Fatalf("P17.1: %s: the block %d has a row of %d entries", name, i, len(some))
				}
				many += len(some)
			}
		}
		if many != len(l) {
			t.Errorf("P17.1: %s: %d entries in the rows, not %d", name, many, len(l))
		}
	}
}

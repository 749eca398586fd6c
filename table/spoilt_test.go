package table

import (
	"fmt"
	"math"
	"math/rand/v2"
	"slices"
	"strings"
	"testing"

	"incipit/api"
	"incipit/block"
	"incipit/bloom"
	"incipit/crc"
	"incipit/varint"
)

// wantNoTable fails unless Open refuses b, with nothing.
func wantNoTable(t *testing.T, what string, b []byte) {
	t.Helper()
	x, err := Open(b)
	if x != nil || err != api.ErrCorrupt || x.Len() != 0 || x.Blocks() != 0 {
		t.Fatalf("P17.2: %s: Open of %d bytes: %v, %d, Len %d", what, len(b), x != nil, err, x.Len())
	}
}

// wantOrCorrupt fails unless entries and an error are as those of the table that
// is not spoilt, or none and ErrCorrupt. It tells whether they are the latter.
func wantOrCorrupt(t *testing.T, what string, got, want []api.Entry, err api.Errno) bool {
	t.Helper()
	if err == api.ErrCorrupt && len(got) == 0 {
		return true
	}
	if err != api.OK || !slices.Equal(got, want) {
		t.Fatalf("P17.2: %s: %d entries, not %d, or others, %d", what, len(got), len(want), err)
	}
	return false
}

// asked is a Get of a table, and its answer.
type asked struct {
	norm  string
	seq   int64
	e     api.Entry
	there bool
}

// gets are some Gets of a table of l: at the edges of each entry, of as many as
// the step leaves, and of what is not there.
func gets(l []api.Entry, step int) []asked {
	var list []asked
	add := func(norm string, seq int64) {
		e, there := modelGet(l, norm, seq)
		list = append(list, asked{norm, seq, e, there})
	}
	for i := 0; i < len(l); i += step {
		add(l[i].Norm, l[i].Seq)
		add(l[i].Norm, l[i].Seq-1)
		add(l[i].Norm+"\x00", l[i].Seq)
	}
	add(l[len(l)-1].Norm, math.MaxInt64)
	add("", math.MinInt64)
	add("\xff\xff\xff", 1)
	return list
}

// wantSpoilt fails unless each call of b, which is a table of l with a fault,
// answers as of that table, or with ErrCorrupt and nothing. It tells whether one
// answers so.
func wantSpoilt(t *testing.T, what string, b []byte, l []api.Entry, blocks int, gets []asked) bool {
	t.Helper()
	x, err := Open(b)
	if err != api.OK {
		wantNoTable(t, what, b)
		return true
	}
	if x.Len() != len(l) || x.Blocks() != blocks {
		t.Fatalf("P17.2: %s: Len %d, %d blocks", what, x.Len(), x.Blocks())
	}
	all, err := x.All()
	told := wantOrCorrupt(t, what+": All", all, l, err)
	for _, g := range gets {
		e, ok, err := x.Get(g.norm, g.seq)
		if err == api.ErrCorrupt && !ok && e == (api.Entry{}) {
			told = true
		} else if err != api.OK || ok != g.there || e != g.e {
			t.Fatalf("P17.2: %s: Get(%.40q, %d): %v, %d", what, g.norm, g.seq, ok, err)
		}
	}
	for i := 0; i < len(gets); i += 9 {
		from, err := x.From(gets[i].norm)
		told = wantOrCorrupt(t, what+": From", from, modelFrom(l, gets[i].norm), err) || told
	}
	return told
}

// wantEachByteHeld changes each byte of l's table, by each of the changes, and
// fails unless each call answers well, and one tells the fault.
func wantEachByteHeld(t *testing.T, name string, l []api.Entry, step int, changes []byte) {
	t.Helper()
	b := built(t, name, l)
	x := opened(t, name, l)
	gets := gets(l, step)
	for i := range b {
		for _, c := range changes {
			b[i] ^= c
			what := fmt.Sprintf("%s: the byte %d of %d changed by %x", name, i, len(b), c)
			if !wantSpoilt(t, what, b, l, x.Blocks(), gets) {
				t.Fatalf("P17.2: %s: no call tells it", what)
			}
			b[i] ^= c
		}
	}
}

// allChanges are those of a byte to each other one.
func allChanges() []byte {
	var l []byte
	for c := 1; c < 256; c++ {
		l = append(l, byte(c))
	}
	return l
}

func TestEachByteOfSmallTablesChangedToAllOthers(t *testing.T) {
	for name, l := range small() {
		if len(l) <= 3 {
			wantEachByteHeld(t, name, l, 1, allChanges())
		}
	}
	wantEachByteHeld(t, "two blocks", versions("n", 20), 4, allChanges())
}

func TestEachByteOfTablesChanged(t *testing.T) {
	for name, l := range small() {
		wantEachByteHeld(t, name, l, 1+len(l)/8, []byte{1, 2, 16, 64, 128, 255})
	}
}

func TestSomeBytesOfGreatTablesChanged(t *testing.T) {
	r := rand.New(rand.NewPCG(17, 4))
	for _, name := range []string{"300 entries", "great", "zeros", "mixed", "bytes"} {
		l := lists()[name]
		b := built(t, name, l)
		x := opened(t, name, l)
		gets := gets(l, 1+len(l)/20)
		for n := range 700 {
			i := r.IntN(len(b))
			// Half of them in the filter, the index and the end.
			if n%2 == 0 {
				i = len(b) - 1 - r.IntN(len(b)-len(x.blocks))
			}
			c := byte(1 + r.IntN(255))
			b[i] ^= c
			what := fmt.Sprintf("%s: the byte %d of %d changed by %x", name, i, len(b), c)
			if !wantSpoilt(t, what, b, l, x.Blocks(), gets) {
				t.Fatalf("P17.2: %s: no call tells it", what)
			}
			b[i] ^= c
		}
	}
}

func TestAFilterThatHides(t *testing.T) {
	// Each byte of the filter without its bits, so that it hides what is there.
	for name, l := range lists() {
		x := opened(t, name, l)
		b := built(t, name, l)
		at := lengthBytes + len(x.blocks)
		gets := gets(l, 1+len(l)/100)
		for i := range x.filter {
			if b[at+i] == 0 {
				continue
			}
			kept := b[at+i]
			b[at+i] = 0
			wantSpoilt(t, fmt.Sprint(name, ": the filter's byte ", i), b, l, x.Blocks(), gets)
			b[at+i] = kept
		}
	}
}

func TestASpoiltBlockLeavesTheOthers(t *testing.T) {
	l := numbered(100)
	b := built(t, "100 entries", l)
	x := opened(t, "100 entries", l)
	first := 0
	for i, p := range x.parts {
		b[lengthBytes+p.at+p.size/2] ^= 1
		spoilt, err := Open(b)
		if err != api.OK || spoilt.Len() != 100 {
			t.Fatalf("P17.2: Open, with the block %d spoilt: %d", i, err)
		}
		for n, e := range l {
			got, ok, err := spoilt.Get(e.Norm, e.Seq)
			if n >= first && n < first+p.count {
				if ok || got != (api.Entry{}) || err != api.ErrCorrupt {
					t.Errorf("P17.2: Get of the entry %d, its block spoilt: %v, %d", n, ok, err)
				}
			} else if !ok || got != e || err != api.OK {
				t.Errorf("P17.2: Get of the entry %d, the block %d spoilt: %v, %d", n, i, ok, err)
			}
		}
		if from, err := spoilt.From(p.last.Norm); len(from) != 0 || err != api.ErrCorrupt {
			t.Errorf("P17.2: From, in the block %d, that is spoilt: %d entries, %d", i, len(from), err)
		}
		from, err := spoilt.From(p.last.Norm + "\x00")
		if err != api.OK || !slices.Equal(from, l[first+p.count:]) {
			t.Errorf("P17.2: From, behind the block %d, that is spoilt: %d entries, %d", i, len(from), err)
		}
		if all, err := spoilt.All(); len(all) != 0 || err != api.ErrCorrupt {
			t.Errorf("P17.2: All, with the block %d spoilt: %d entries, %d", i, len(all), err)
		}
		b[lengthBytes+p.at+p.size/2] ^= 1
		first += p.count
	}
}

func TestTablesThatAreCut(t *testing.T) {
	for name, l := range lists() {
		b := built(t, name, l)
		for i := range b {
			// Of the long ones not each place of the middle.
			if i > 2000 && i < len(b)-500 && i%37 != 0 {
				continue
			}
			wantNoTable(t, fmt.Sprint(name, ", cut at ", i), b[:i])
			if i < 300 {
				wantNoTable(t, fmt.Sprint(name, ", cut at ", i, ", without room"), slices.Clone(b[:i]))
			}
		}
		wantNoTable(t, name+", with a byte more", append(slices.Clone(b), 0))
		wantNoTable(t, name+", with a byte ahead", append([]byte{0}, b...))
		wantNoTable(t, name+", twice", slices.Concat(b, b))
		wantNoTable(t, name+", without its first byte", b[1:])
		wantNoTable(t, name+", without its head", b[lengthBytes:])
	}
}

func TestTablesInTables(t *testing.T) {
	for name, l := range small() {
		inner := string(built(t, name, l))
		for _, l := range [][]api.Entry{
			{put("a", 1, inner)},
			{put("a", 1, inner+inner)},
			{{Norm: inner, Seq: 1, Kind: api.KDel, Spelling: inner}},
			append(numbered(30), put("z", 1, "front"+inner), put("zz", 1, inner[8:])),
		} {
			b := built(t, "with "+name, l)
			wantTable(t, "with "+name, opened(t, "with "+name, l), l)
			for i := range b {
				wantNoTable(t, fmt.Sprint("with ", name, ", cut at ", i), b[:i])
			}
		}
	}
}

func TestACutBehindWhatLooksLikeAnEnd(t *testing.T) {
	// The value is such that with it ends what looks like a table of the first
	// block alone, whose filter begins where the second block does.
	const size = 400
	first := put("a", 1, strings.Repeat("v", 300))
	value := strings.Repeat("w", size)
	b := built(t, "a plain value", []api.Entry{first, put("b", 1, value)})
	x := opened(t, "a plain value", []api.Entry{first, put("b", 1, value)})
	if x.Blocks() != 2 {
		t.Fatalf("P17.2: %d blocks", x.Blocks())
	}
	from := lengthBytes + x.parts[0].size
	to := strings.Index(string(b), value)
	filter := append(slices.Clone(b[from:to]), bloom.Make([]string{"a"})...)
	index := putPart(x.parts[0])
	looks := string(putTogether(x.blocks[:x.parts[0].size], filter, index)[to:])

	l := []api.Entry{first, put("b", 1, looks+value[len(looks):])}
	b = built(t, "such a value", l)
	wantTable(t, "such a value", opened(t, "such a value", l), l)
	cut := b[:to+len(looks)]
	blocks, _, _, ok := takeApart(slices.Concat(varint.Put64(uint64(len(cut))), cut[lengthBytes:]))
	if !ok || len(blocks) != x.parts[0].size {
		t.Fatalf("P17.2: it does not look like an end: %v", ok)
	}
	wantNoTable(t, "a cut behind it", cut)
}

func TestBytesThatAreNone(t *testing.T) {
	wantNoTable(t, "nil", nil)
	wantNoTable(t, "no bytes", []byte{})
	r := rand.New(rand.NewPCG(17, 5))
	for n := range 400 {
		for _, c := range []byte{0, 1, 255, byte(n)} {
			wantNoTable(t, fmt.Sprint(n, " times ", c), []byte(strings.Repeat(string([]byte{c}), n)))
		}
		for range 20 {
			b := make([]byte, n)
			for i := range b {
				b[i] = byte(r.Uint32())
			}
			wantNoTable(t, fmt.Sprint(n, " random bytes"), b)
			if n >= lengthBytes {
				copy(b, varint.Put64(uint64(n)))
				wantNoTable(t, fmt.Sprint(n, " random bytes behind their length"), b)
			}
		}
	}
}

// endOf is an end that tells these lengths, and this as api.Magic.
func endOf(filter, index uint64, magic uint32) []byte {
	return seal(slices.Concat(varint.Put64(filter), varint.Put64(index), varint.Put32(magic)))
}

// headed is b behind the length of both.
func headed(b ...[]byte) []byte {
	body := slices.Concat(b...)
	return append(varint.Put64(uint64(len(body)+lengthBytes)), body...)
}

func TestEndsThatTellOtherLengths(t *testing.T) {
	l := numbered(30)
	x := opened(t, "30 entries", l)
	_, filter, index, _ := takeApart(built(t, "30 entries", l))
	filter, index = seal(filter), seal(index)
	f, i := uint64(len(filter)), uint64(len(index))
	right := headed(x.blocks, filter, index, endOf(f, i, api.Magic))
	if string(right) != string(built(t, "30 entries", l)) {
		t.Fatal("the parts of a table are not as this test has them")
	}
	for _, magic := range []uint32{0, api.Magic + 1, api.Magic ^ 1<<31, 0x6369636e, 1<<32 - 1} {
		wantNoTable(t, fmt.Sprintf("the magic %x", magic), headed(x.blocks, filter, index, endOf(f, i, magic)))
	}
	for _, n := range []uint64{0, 1, 3, 4, 5, 1 << 10, 1 << 31, 1 << 32, 1<<63 - 1, 1 << 63, 1<<64 - 1, -f, -i, f - 1, f + 1, f + i, f + 1<<32, f + 1<<63, i - 1, i + 1, i + 1<<32, uint64(len(x.blocks)), uint64(len(x.blocks)) + f} {
		if n != f {
			wantNoTable(t, fmt.Sprint("a filter of ", n), headed(x.blocks, filter, index, endOf(n, i, api.Magic)))
		}
		if n != i {
			wantNoTable(t, fmt.Sprint("an index of ", n), headed(x.blocks, filter, index, endOf(f, n, api.Magic)))
		}
		wantNoTable(t, fmt.Sprint("an end alone, of ", n), headed(endOf(n, n, api.Magic)))
		wantNoTable(t, fmt.Sprint("an end alone, of none and ", n), headed(endOf(n, 0, api.Magic)))
	}
	wantNoTable(t, "a byte between", headed(x.blocks, []byte{0}, filter, index, endOf(f, i, api.Magic)))
	wantNoTable(t, "a block more", headed(x.blocks, x.blocks[:x.parts[0].size], filter, index, endOf(f, i, api.Magic)))
	wantNoTable(t, "a block less", headed(x.blocks[x.parts[0].size:], filter, index, endOf(f, i, api.Magic)))
}

func TestIndexesThatDoNotFit(t *testing.T) {
	l := numbered(30)
	x := opened(t, "30 entries", l)
	made := func(parts ...part) []byte {
		var index []byte
		for _, p := range parts {
			index = append(index, putPart(p)...)
		}
		return putTogether(x.blocks, x.filter, index)
	}
	if string(made(x.parts...)) != string(built(t, "30 entries", l)) {
		t.Fatal("the index of a table is not as this test has it")
	}
	wantNoTable(t, "an index of none", made())
	wantNoTable(t, "no blocks and an index of none", putTogether(nil, x.filter, nil))
	wantNoTable(t, "a part less", made(x.parts[1:]...))
	wantNoTable(t, "a part twice", made(append(x.parts, x.parts[0])...))
	for _, n := range []int{0, 1, x.parts[0].size - 1, x.parts[0].size + 1, len(x.blocks), len(x.blocks) + 1, 1 << 32, math.MaxInt, math.MinInt, -1} {
		p := x.parts[0]
		p.size = n
		wantNoTable(t, fmt.Sprint("a size of ", n), made(append([]part{p}, x.parts[1:]...)...))
		p = x.parts[0]
		p.count = max(n, p.size+1)
		wantNoTable(t, fmt.Sprint("a count of ", p.count), made(append([]part{p}, x.parts[1:]...)...))
		p.count = min(n, -1)
		wantNoTable(t, fmt.Sprint("a count of ", p.count), made(append([]part{p}, x.parts[1:]...)...))
	}
	// Sizes whose sum goes round to that of the blocks.
	for _, n := range []int{-1, -8, math.MinInt, math.MaxInt} {
		a, b := part{size: n}, part{size: len(x.blocks) - n}
		wantNoTable(t, fmt.Sprint("sizes of ", a.size, " and ", b.size), made(a, b))
		wantNoTable(t, fmt.Sprint("sizes of ", b.size, " and ", a.size), made(b, a))
	}
	whole := string(putPart(x.parts[0]))
	for i := range len(whole) {
		wantNoTable(t, "a part that is cut", putTogether(x.blocks[:x.parts[0].size], x.filter, []byte(whole[:i])))
	}
	wantNoTable(t, "bytes behind the parts", putTogether(x.blocks[:x.parts[0].size], x.filter, []byte(whole+"\x00")))
	wantNoTable(t, "a number longer than needed", putTogether(x.blocks[:x.parts[0].size], x.filter, []byte("\x81\x00"+whole[1:])))
}

func TestCountsThatAreNotTheBlocks(t *testing.T) {
	l := numbered(8)
	x := opened(t, "8 entries", l)
	for _, count := range []int{0, 7, 9, x.parts[0].size} {
		p := x.parts[0]
		p.count = count
		y, err := Open(putTogether(x.blocks, x.filter, putPart(p)))
		if err != api.OK {
			continue
		}
		if all, err := y.All(); len(all) != 0 || err != api.ErrCorrupt {
			t.Errorf("P17.2: All, where the index tells %d entries of 8: %d, %d", count, len(all), err)
		}
	}
}

// tableOf is a table of one block, whose bytes are b, without its sum.
func tableOf(b []byte, count int) []byte {
	b = seal(b)
	p := part{last: put("\xff", 1, ""), size: len(b), count: count}
	return putTogether(b, nil, putPart(p))
}

func TestRowsThatAreNone(t *testing.T) {
	good := string(putVersion(put("k", 5, "value")))
	row := func(value string) []byte {
		b := block.New()
		b.Add("k", value)
		return b.Bytes()
	}
	x, err := Open(tableOf(row(good), 1))
	if err != api.OK {
		t.Fatalf("a table made by hand: %d", err)
	}
	wantWhole(t, "a table made by hand", x, []api.Entry{put("k", 5, "value")})
	var spoilt []string
	for i := 1; i < len(good); i++ {
		spoilt = append(spoilt, good[:i])
	}
	spoilt = append(spoilt, good+"\x00", good+good[:3], "\x85\x00"+good[1:], strings.Repeat("\xff", 30), "\x05\x01\xff\xff\xff\xff\xff\xff\xff\xff\xff\x01abc")
	for _, value := range spoilt {
		for count := range 3 {
			x, err := Open(tableOf(row(value), count))
			if err != api.OK {
				t.Fatalf("P17.2: a row of %x: Open answers %d", value, err)
			}
			wantCorrupt(t, fmt.Sprintf("a row of %x", value), x)
		}
	}
	for _, b := range [][]byte{nil, {0}, {1, 2, 3, 4}, {0, 0, 0, 1}, row(good)[1:]} {
		for count := range 2 {
			x, err := Open(tableOf(b, count))
			if err != api.OK {
				t.Fatalf("P17.2: the block %x: Open answers %d", b, err)
			}
			wantCorrupt(t, fmt.Sprintf("the block %x", b), x)
		}
	}
	for _, size := range []int{0, 1, 3} {
		x, err := Open(putTogether(make([]byte, size), nil, putPart(part{size: size})))
		if err == api.OK {
			wantCorrupt(t, fmt.Sprint("a block of ", size, " bytes"), x)
		}
	}
}

// wantCorrupt fails unless no call that reads the one block of x tells anything.
func wantCorrupt(t *testing.T, what string, x *Table) {
	t.Helper()
	if all, err := x.All(); len(all) != 0 || err != api.ErrCorrupt {
		t.Errorf("P17.2: %s: All: %d entries, %d", what, len(all), err)
	}
	if from, err := x.From(""); len(from) != 0 || err != api.ErrCorrupt {
		t.Errorf("P17.2: %s: From: %d entries, %d", what, len(from), err)
	}
	if e, ok, err := x.Get("", 5); e != (api.Entry{}) || ok || err != api.ErrCorrupt {
		t.Errorf("P17.2: %s: Get: %v, %v, %d", what, e, ok, err)
	}
}

func TestAnyBytesUnderTheirSums(t *testing.T) {
	// No sum tells these faults. No call may panic, or tell of more than there is.
	r := rand.New(rand.NewPCG(17, 6))
	some := func(b []byte) []byte {
		b = slices.Clone(b)
		for range r.IntN(4) {
			if len(b) > 0 {
				b[r.IntN(len(b))] = byte(r.IntN(256) >> r.IntN(8))
			}
		}
		return b[:len(b)-r.IntN(min(len(b), 2)+1)]
	}
	for name, l := range small() {
		x := opened(t, name, l)
		_, filter, index, _ := takeApart(built(t, name, l))
		norms := askedNorms(l)
		for range 1500 {
			var blocks []byte
			for _, p := range x.parts {
				b, _ := unseal(x.blocks[p.at : p.at+p.size])
				blocks = append(blocks, seal(some(b))...)
			}
			y, err := Open(putTogether(blocks, some(filter), some(index)))
			if err != api.OK && err != api.ErrCorrupt || (y == nil) != (err == api.ErrCorrupt) {
				t.Fatalf("P17.2: %s, spoilt under its sums: Open answers %d", name, err)
			}
			norm := norms[r.IntN(len(norms))]
			y.Get(norm, 1+r.Int64N(100))
			y.From(norm)
			all, err := y.All()
			if y != nil && err == api.OK && len(all) != y.Len() || err != api.OK && len(all) != 0 {
				t.Fatalf("P17.2: %s, spoilt under its sums: All: %d entries, Len %d, %d", name, len(all), y.Len(), err)
			}
		}
	}
}

func TestSumsAreThoseOfTheBytes(t *testing.T) {
	for name, l := range small() {
		b := built(t, name, l)
		x := opened(t, name, l)
		for i, p := range x.parts {
			end := lengthBytes + p.at + p.size
			if sum := varint.Get32(b[end-4:]); sum != crc.Sum(b[end-p.size:end-4]) {
				t.Errorf("P17.1: %s: the sum of the block %d is %x", name, i, sum)
			}
		}
	}
}

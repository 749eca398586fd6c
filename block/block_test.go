package block

import (
	"math/rand/v2"
	"slices"
	"strings"
	"testing"
)

// wantBlock fails unless the builder's block is the model's of rows, and Size
// tells its length.
func wantBlock(t *testing.T, what string, b *Builder, rows []Row) {
	t.Helper()
	want, got := modelBytes(rows), string(b.Bytes())
	if got != want {
		t.Fatalf("P16.1: %s, %d rows: %.60x, not %.60x", what, len(rows), got, want)
	}
	if b.Size() != len(want) {
		t.Fatalf("P16.1: %s, %d rows: Size %d of %d bytes", what, len(rows), b.Size(), len(want))
	}
}

func TestBlocksThatAreKnown(t *testing.T) {
	for _, c := range []struct {
		rows []Row
		want string
	}{
		{nil, "\x00\x00\x00\x00"},
		{[]Row{{"", ""}}, "\x00\x00\x00" + "\x00\x00\x00\x00" + "\x01\x00\x00\x00"},
		{[]Row{{"ab", "v"}}, "\x00\x02\x01abv" + "\x00\x00\x00\x00" + "\x01\x00\x00\x00"},
		{
			[]Row{{"a", "1"}, {"ab", ""}, {"abc", "33"}, {"ac", "4"}, {"acd", "5"}, {"ad", "6"}},
			"\x00\x01\x01a1" + "\x01\x01\x00b" + "\x02\x01\x02c33" + "\x01\x01\x01c4" + "\x00\x03\x01acd5" + "\x01\x01\x01d6" +
				"\x00\x00\x00\x00" + "\x14\x00\x00\x00" + "\x02\x00\x00\x00",
		},
		{
			[]Row{{"", "x"}, {"\x00", "y"}, {"\x00\xff", "z"}, {"\x80", ""}},
			"\x00\x00\x01x" + "\x00\x01\x01\x00y" + "\x01\x01\x01\xffz" + "\x00\x01\x00\x80" + "\x00\x00\x00\x00" + "\x01\x00\x00\x00",
		},
		{
			[]Row{{strings.Repeat("p", 300), strings.Repeat("v", 128)}, {strings.Repeat("p", 300) + "q", ""}},
			"\x00\xac\x02\x80\x01" + strings.Repeat("p", 300) + strings.Repeat("v", 128) + "\xac\x02\x01\x00q" + "\x00\x00\x00\x00" + "\x01\x00\x00\x00",
		},
	} {
		b, ok := built(c.rows)
		if got := string(b.Bytes()); !ok || got != c.want || b.Size() != len(c.want) {
			t.Errorf("P16.1: %.60q: %x, Size %d", c.rows, got, b.Size())
		}
	}
}

func TestBlocksAtEachStep(t *testing.T) {
	for name, rows := range blocks() {
		b := New()
		wantBlock(t, name, b, nil)
		for n, r := range rows {
			if !b.Add(r.Key, r.Value) {
				t.Fatalf("P16.1: %s: the row %d is refused", name, n)
			}
			// The model takes long for hundreds of rows at each step.
			if n < 40 || n%50 == 0 {
				wantBlock(t, name, b, rows[:n+1])
			}
			if n >= 40 && b.Size() != len(b.Bytes()) {
				t.Fatalf("P16.1: %s, %d rows: Size %d", name, n+1, b.Size())
			}
		}
		wantBlock(t, name, b, rows)
	}
}

func TestANewBuilder(t *testing.T) {
	for _, b := range []*Builder{New(), {}} {
		if b.Size() != 4 || string(b.Bytes()) != "\x00\x00\x00\x00" {
			t.Errorf("P16.1: a new builder: Size %d, %x", b.Size(), b.Bytes())
		}
		if !b.Add("a", "") || b.Size() != 4+4+4 {
			t.Errorf("P16.1: a new builder's first row: Size %d", b.Size())
		}
	}
}

func TestEachFourthRowIsWholeAndHasItsPlace(t *testing.T) {
	for n := range 40 {
		b, _ := built(numbered("k", n))
		places := (n + 3) / 4
		x := b.Bytes()
		if many := int(x[len(x)-4]); many != places {
			t.Errorf("P16.1: %d rows: %d places", n, many)
		}
		for i := range places {
			at := int(x[len(x)-4-4*(places-i)]) + 256*int(x[len(x)-3-4*(places-i)])
			if x[at] != 0 || x[at+1] != 6 || x[at+3] != 'k' {
				t.Errorf("P16.1: %d rows: the place %d is %d", n, i, at)
			}
		}
	}
}

func TestKeysThatAreNotAboveTheLast(t *testing.T) {
	for name, rows := range blocks() {
		b := New()
		for n, r := range rows {
			b.Add(r.Key, r.Value)
			refused := []string{r.Key, rows[0].Key, ""}
			if r.Key != "" {
				last := r.Key[len(r.Key)-1]
				refused = append(refused, r.Key[:len(r.Key)-1], r.Key[:len(r.Key)/2])
				if last > 0 {
					refused = append(refused, r.Key[:len(r.Key)-1]+string([]byte{last - 1}), r.Key[:len(r.Key)-1]+string([]byte{last - 1, 255, 255}))
				}
			}
			size := b.Size()
			for _, key := range refused {
				if b.Add(key, "other") || b.Add(key, r.Value) || b.Add(key, "") {
					t.Fatalf("P16.1: %s: %.20q behind %.20q", name, key, r.Key)
				}
			}
			if b.Size() != size {
				t.Fatalf("P16.1: %s: a row that was refused, behind %d: Size %d", name, n+1, b.Size())
			}
			if n < 20 {
				wantBlock(t, name, b, rows[:n+1])
			}
		}
		// What came behind those that were refused was laid as without them.
		wantBlock(t, name, b, rows)
	}
}

func TestTheEmptyKey(t *testing.T) {
	b := New()
	if !b.Add("", "one") || b.Add("", "two") || b.Add("", "") || !b.Add("\x00", "three") || b.Add("", "four") {
		t.Error("P16.1: the empty key")
	}
	wantBlock(t, "the empty key", b, []Row{{"", "one"}, {"\x00", "three"}})
	for _, key := range []string{"\x00", "a", "\xff", strings.Repeat("a", 300)} {
		b := New()
		if !b.Add(key, "") || b.Add("", "") {
			t.Errorf("P16.1: the empty key behind %.20q", key)
		}
		wantBlock(t, "the empty key", b, []Row{{key, ""}})
	}
}

func TestOrderOfAllPairs(t *testing.T) {
	keys := append(anyKeys(rand.New(rand.NewPCG(16, 2)), 60), "", "\x7f", "\x80", "\xff", "\xff\x00", "\x00", "\x00\x00", "a", "B", "\u00e9", "\U0001f600", "\uffff")
	for _, last := range keys {
		for _, key := range keys {
			above := slices.Compare([]byte(key), []byte(last)) > 0
			// Rows ahead of the pair, so that it stands at each place among four.
			for n := range 5 {
				b, _ := built(keyed(lettered(n)...))
				if !b.Add("k"+last, "") || b.Add("k"+key, "") != above {
					t.Fatalf("P16.1: %q behind %q and %d others", key, last, n)
				}
			}
			if b := New(); !b.Add(last, "") || b.Add(key, "") != above {
				t.Fatalf("P16.1: %q behind %q", key, last)
			}
		}
	}
}

func TestBytesTwiceAndRowsBehindIt(t *testing.T) {
	for name, rows := range blocks() {
		if len(rows) > 100 {
			continue
		}
		b := New()
		var told [][]byte
		for n := range rows {
			told = append(told, b.Bytes())
			if again := b.Bytes(); string(again) != string(told[n]) {
				t.Fatalf("P16.1: %s: Bytes twice, of %d rows", name, n)
			}
			b.Add(rows[n].Key, rows[n].Value)
		}
		for n := range told {
			if string(told[n]) != modelBytes(rows[:n]) {
				t.Fatalf("P0.3: %s: the bytes of %d rows are changed by later ones", name, n)
			}
		}
		wantBlock(t, name, b, rows)
	}
}

// fill writes c into all of b, its spare room too.
func fill(b []byte, c byte) {
	b = b[:cap(b)]
	for i := range b {
		b[i] = c
	}
}

func TestBytesAreNewMemory(t *testing.T) {
	for name, rows := range blocks() {
		if len(rows) > 100 {
			continue
		}
		b := New()
		for n := range rows {
			first, second := b.Bytes(), b.Bytes()
			fill(first, 0xa5)
			if string(second) != modelBytes(rows[:n]) {
				t.Fatalf("P0.3: %s: two answers of %d rows share memory", name, n)
			}
			fill(second, 0x5a)
			wantBlock(t, name, b, rows[:n])
			b.Add(rows[n].Key, rows[n].Value)
		}
		fill(b.Bytes(), 0xff)
		wantBlock(t, name, b, rows)
	}
}

func TestBuildersApart(t *testing.T) {
	one, other := New(), New()
	rows, others := numbered("k", 30), numbered("\xffother", 30)
	for i := range rows {
		if !other.Add(others[i].Key, others[i].Value) || !one.Add(rows[i].Key, rows[i].Value) {
			t.Fatal("P0.5: a row of one builder counts for the other")
		}
	}
	wantBlock(t, "one", one, rows)
	wantBlock(t, "other", other, others)
}

func TestANilBuilder(t *testing.T) {
	var b *Builder
	for _, key := range []string{"", "a", "\xff"} {
		if b.Add(key, "v") {
			t.Errorf("P16.2: a nil builder takes %q", key)
		}
	}
	if b.Size() != 0 || len(b.Bytes()) != 0 {
		t.Errorf("P16.2: a nil builder: Size %d, %x", b.Size(), b.Bytes())
	}
}

func TestGreatRows(t *testing.T) {
	great := strings.Repeat("g", 1<<20)
	rows := []Row{{great, great}, {great + "a", ""}, {great + "b", "v"}, {great + "b\x00", great}, {great + "c", "w"}, {"h", great}}
	b, ok := built(rows)
	if !ok {
		t.Error("P16.1: great rows are refused")
	}
	wantBlock(t, "great rows", b, rows)
}

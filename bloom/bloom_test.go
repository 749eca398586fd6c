package bloom

import (
	"bytes"
	"encoding/hex"
	"math/rand/v2"
	"slices"
	"strings"
	"testing"
)

// wantMake fails unless Make tells the filter that the model does.
func wantMake(t *testing.T, norms []string) {
	t.Helper()
	if got, want := Make(norms), modelMake(norms); !bytes.Equal(got, want) {
		t.Errorf("P15.1: Make of %d texts from %.20q on: %.40x, not %.40x", len(norms), norms, got, want)
	}
}

func TestLengths(t *testing.T) {
	for n, want := range map[int]int{
		0: 9, 1: 9, 2: 9, 3: 9, 4: 9, 5: 9, 6: 9, 7: 10, 8: 11, 9: 13, 10: 14, 11: 15, 12: 16, 13: 18,
		14: 19, 15: 20, 16: 21, 20: 26, 99: 125, 100: 126, 101: 128, 1000: 1251, 100001: 125003,
	} {
		for _, norms := range [][]string{numbered("k", n), times("", n), times("\xff", n)} {
			if f := Make(norms); len(f) != want || f[len(f)-1] != 6 {
				t.Errorf("P15.1: Make of %d texts: %d bytes, the last one %d", n, len(f), f[len(f)-1])
			}
		}
	}
	for n := range 500 {
		if f := Make(numbered("", n)); len(f) != bitsFor(n)/8+1 || f[len(f)-1] != 6 {
			t.Errorf("P15.1: Make of %d texts: %d bytes, the last one %d", n, len(f), f[len(f)-1])
		}
	}
}

func TestLengthDoesNotHangOnTheTexts(t *testing.T) {
	for _, s := range manyTexts() {
		for n, want := range map[int]int{1: 9, 7: 10, 13: 18} {
			if f := Make(times(s, n)); len(f) != want || f[len(f)-1] != 6 {
				t.Errorf("P15.1: Make of %d times %.20q: %d bytes", n, s, len(f))
			}
		}
	}
}

func TestFiltersThatAreKnown(t *testing.T) {
	for want, norms := range map[string][]string{
		"000000000000000006":   {},
		"800000012002400406":   {""},
		"001000000000000006":   {"a"},
		"000800000008000006":   {"abc"},
		"001000002000000006":   {"a", "b"},
		"90bf244b884865833606": numbered("k", 7),
		"2bf43137c10918e88faa1386d4456c648418114c776723faa106": numbered("k", 20),
	} {
		if got := hex.EncodeToString(Make(norms)); got != want {
			t.Errorf("P15.1: Make(%q): %s, not %s", norms, got, want)
		}
	}
}

func TestBitsOfOneText(t *testing.T) {
	for _, s := range manyTexts() {
		wantMake(t, []string{s})
		// It counts each time that it comes, so that its bits are among more.
		for _, n := range []int{2, 6, 7, 8, 9, 13, 20, 101} {
			wantMake(t, times(s, n))
		}
	}
	for _, s := range []string{"", "a", "e\u0301", "\xff\xff"} {
		for n := range 400 {
			wantMake(t, times(s, n))
		}
	}
}

func TestBitsOfSeveralTexts(t *testing.T) {
	l := manyTexts()
	for i := range l {
		for _, n := range []int{2, 3, 5, 6, 7, 8, 12, 13, 20} {
			if i+n <= len(l) {
				wantMake(t, l[i:i+n])
			}
		}
	}
	wantMake(t, []string{"", "", "a"})
	wantMake(t, []string{"e\u0301", "\u00e9"})
}

func TestBitsOfManyTexts(t *testing.T) {
	wantMake(t, manyTexts())
	for _, n := range []int{50, 99, 100, 101, 999, 1000, 1001, 5000} {
		wantMake(t, numbered("k", n))
		wantMake(t, numbered("e\u0301\xff", n))
	}
	wantMake(t, []string{strings.Repeat("y", 1<<20), "a", strings.Repeat("y", 1<<20) + "\x00"})
}

func TestSumsThatGoRound(t *testing.T) {
	// By 64 or 128 bits 2^64 can be divided, so that going round would not be
	// felt: the filters of these are of other lengths.
	for _, n := range []int{7, 8, 9, 13, 100} {
		felt := 0
		for _, s := range manyTexts() {
			bits := bitsFor(n)
			if slices.Equal(straightPlaces(s, bits), roundPlaces(s, bits)) {
				continue
			}
			felt++
			f := Make(times(s, n))
			if !bytes.Equal(f, modelMake(times(s, n))) || !May(f, s) {
				t.Errorf("P15.1: the filter of %d times %.20q", n, s)
			}
		}
		if felt < 100 {
			t.Errorf("of %d texts only %d have a sum that goes round", len(manyTexts()), felt)
		}
	}
}

func TestTextsThatHaveOneBitAlone(t *testing.T) {
	// Where the step is a multiple of 64, all six are one.
	seen := map[int]int{}
	for i := 0; len(seen) < 64 && i < 1<<20; i++ {
		s := strings.Repeat("a", i%3) + numberText(i)
		l := slices.Compact(roundPlaces(s, 64))
		if len(l) > 1 {
			continue
		}
		k := l[0]
		seen[k]++
		want := make([]byte, 9)
		want[k/8], want[8] = 1<<(k%8), 6
		if f := Make([]string{s}); !bytes.Equal(f, want) || !May(want, s) {
			t.Errorf("P15.1: bit %d alone, of %q: %x", k, s, f)
		}
		want[k/8] = 0
		if May(want, s) {
			t.Errorf("P15.1: bit %d, missing, of %q", k, s)
		}
	}
	if len(seen) < 64 {
		t.Errorf("only %d of 64 bits were met", len(seen))
	}
}

// numberText is a text of n, in few bytes of any value.
func numberText(n int) string {
	return string([]byte{byte(n), byte(n >> 8), byte(n >> 16)})
}

func TestFirstAndLastBit(t *testing.T) {
	for _, n := range []int{1, 7, 8, 13, 100, 1000} {
		bits := bitsFor(n)
		for _, k := range []int{0, 7, 8, bits - 8, bits - 1} {
			i := 0
			for !slices.Contains(roundPlaces(numberText(i), bits), k) {
				i++
			}
			s := numberText(i)
			f := Make(times(s, n))
			if f[k/8]>>(k%8)&1 != 1 || !May(f, s) {
				t.Errorf("P15.1: %d texts: bit %d is not set", n, k)
			}
			f[k/8] ^= 1 << (k % 8)
			if May(f, s) {
				t.Errorf("P15.1: %d texts: bit %d is missing", n, k)
			}
		}
	}
}

func TestMakeOfNoTexts(t *testing.T) {
	want := []byte{0, 0, 0, 0, 0, 0, 0, 0, 6}
	for _, norms := range [][]string{nil, {}, make([]string, 0, 9), {"a", "b"}} {
		if f := Make(norms[:0]); !bytes.Equal(f, want) {
			t.Errorf("P15.1: Make of no texts: %x", f)
		}
	}
	if f := Make(nil); !bytes.Equal(f, want) {
		t.Errorf("P15.1: Make(nil): %x", f)
	}
}

func TestOrderDoesNotCount(t *testing.T) {
	r := rand.New(rand.NewPCG(15, 1))
	for _, n := range []int{2, 3, 6, 7, 13, 100, 1000} {
		norms := append(numbered("k", n-1), "")
		want := Make(norms)
		slices.Reverse(norms)
		if f := Make(norms); !bytes.Equal(f, want) {
			t.Errorf("P15.1: %d texts the other way round: another filter", n)
		}
		for range 20 {
			r.Shuffle(n, func(i, j int) { norms[i], norms[j] = norms[j], norms[i] })
			if f := Make(norms); !bytes.Equal(f, want) {
				t.Fatalf("P15.1: %d texts in another order: another filter", n)
			}
		}
	}
}

func TestATextThatComesTwiceCountsTwice(t *testing.T) {
	six := numbered("k", 6)
	// The seventh needs another length; among six all bits are there.
	if f := Make(append(six, "k3")); len(f) != 10 || !bytes.Equal(f, modelMake(append(six, "k3"))) {
		t.Errorf("P15.1: seven texts, two of them alike: %x", f)
	}
	if f := Make([]string{"k1", "k2", "k1"}); !bytes.Equal(f, Make([]string{"k1", "k2"})) {
		t.Errorf("P15.1: three texts, two of them alike: %x", f)
	}
	twice := append(numbered("k", 100), numbered("k", 100)...)
	if f := Make(twice); len(f) != 251 || !bytes.Equal(f, Make(append(numbered("k", 200)[:100], numbered("k", 100)...))) {
		t.Errorf("P15.1: a hundred texts twice: %d bytes", len(f))
	}
	wantMake(t, twice)
}

func TestMakeLeavesWhatItIsHanded(t *testing.T) {
	for _, n := range []int{0, 1, 7, 100} {
		room := append(numbered("k", n), "spare", "room")
		want := slices.Clone(room)
		f := Make(room[:n])
		if !slices.Equal(room, want) {
			t.Errorf("P0.3: Make of %d texts changes them", n)
		}
		told := slices.Clone(f)
		for i := range room {
			room[i] = "other"
		}
		if !bytes.Equal(f, told) {
			t.Errorf("P0.3: Make of %d texts keeps them", n)
		}
	}
}

// fill writes c into all of b, its spare room too.
func fill(b []byte, c byte) {
	b = b[:cap(b)]
	for i := range b {
		b[i] = c
	}
}

func TestMakeTellsNewMemory(t *testing.T) {
	for _, n := range []int{0, 1, 6, 7, 100} {
		norms := numbered("k", n)
		first, second := Make(norms), Make(norms)
		want := modelMake(norms)
		fill(first, 0xa5)
		if !bytes.Equal(second, want) {
			t.Errorf("P0.3: two filters of %d texts share memory", n)
		}
		fill(second, 0x5a)
		if third := Make(norms); !bytes.Equal(third, want) {
			t.Errorf("P0.5: the third filter of %d texts: %x", n, third)
		}
	}
}

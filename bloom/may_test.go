package bloom

import (
	"bytes"
	"slices"
	"strings"
	"testing"
)

// wantMay fails unless May answers as the model does.
func wantMay(t *testing.T, filter []byte, s string) {
	t.Helper()
	if got, want := May(filter, s), modelMay(filter, s); got != want {
		t.Errorf("P15.1: May of %d bytes, %.40x, and %.20q: %v", len(filter), filter, s, got)
	}
}

func TestMayOfEachTextOfMakes(t *testing.T) {
	lists := [][]string{{""}, {"a"}, {"\xff"}, {"e\u0301", "\u00e9"}, manyTexts(), times("a", 50)}
	for _, n := range []int{1, 2, 6, 7, 8, 12, 13, 20, 100, 1000, 20000} {
		lists = append(lists, numbered("k", n), numbered("\u1112\u1161\xff", n))
	}
	for _, s := range manyTexts() {
		lists = append(lists, []string{s})
	}
	lists = append(lists, []string{strings.Repeat("y", 1<<20), "a"})
	for _, norms := range lists {
		f := Make(norms)
		for _, s := range norms {
			if !May(f, s) {
				t.Fatalf("P15.1: %.20q is not in the filter of %d texts", s, len(norms))
			}
		}
	}
}

func TestMayOfOtherTexts(t *testing.T) {
	for _, n := range []int{0, 1, 2, 6, 7, 8, 12, 13, 20, 100, 1000} {
		f := Make(numbered("k", n))
		for _, s := range append(manyTexts(), numbered("x", 200)...) {
			wantMay(t, f, s)
		}
	}
}

func TestMayIsNotOftenTrueOfOthers(t *testing.T) {
	for _, front := range []string{"x", "other", "\u1112\u1161", "\xff", strings.Repeat("long", 20)} {
		for _, n := range []int{0, 1, 6, 7, 8, 13, 20, 100, 1000, 10000} {
			f, met := Make(numbered("k", n)), 0
			for _, s := range numbered(front, 1000) {
				if May(f, s) {
					met++
				}
			}
			if met > 60 {
				t.Errorf("P15.1: %d of a thousand others are met among %d", met, n)
			}
		}
	}
}

func TestMayBothWays(t *testing.T) {
	f := Make([]string{"abc", "e\u0301"})
	for s, want := range map[string]bool{
		"abc": true, "e\u0301": true, "": false, "ab": false, "abcd": false, "ABC": false,
		// The form counts, by its bytes, not what is canonically equivalent.
		"\u00e9": false,
	} {
		if got := May(f, s); got != want {
			t.Errorf("P15.1: May of %+q: %v", s, got)
		}
	}
}

func TestMayWhereOneBitIsMissing(t *testing.T) {
	for _, size := range []int{1, 2, 3, 7, 8, 9, 10, 17, 125, 1250} {
		sixes := 0
		for _, s := range manyTexts()[:300] {
			l := roundPlaces(s, 8*size)
			slices.Sort(l)
			if l = slices.Compact(l); len(l) == 6 {
				sixes++
			}
			full, only := fullFilter(size), onlyFilter(size, l)
			if !May(full, s) || !May(only, s) {
				t.Fatalf("P15.1: %.20q in %d bytes: no bit is missing", s, size)
			}
			for _, k := range l {
				full[k/8] ^= 1 << (k % 8)
				only[k/8] ^= 1 << (k % 8)
				if May(full, s) || May(only, s) {
					t.Errorf("P15.1: %.20q in %d bytes: bit %d is missing", s, size, k)
				}
				full[k/8] ^= 1 << (k % 8)
				only[k/8] ^= 1 << (k % 8)
			}
		}
		if size >= 7 && sixes < 50 {
			t.Errorf("of %d bytes only %d texts have six bits", size, sixes)
		}
	}
}

func TestMayByTheNumberOfTheBitThatIsMissing(t *testing.T) {
	// Each of the six in its turn, of a text whose bits are apart.
	for n := range 6 {
		for _, size := range []int{8, 9, 1250} {
			met := 0
			for _, s := range manyTexts() {
				l := roundPlaces(s, 8*size)
				k := l[n]
				if len(slices.Compact(slices.Sorted(slices.Values(l)))) < 6 {
					continue
				}
				met++
				f := fullFilter(size)
				f[k/8] &^= 1 << (k % 8)
				if May(f, s) {
					t.Errorf("P15.1: %.20q in %d bytes: its bit %d is missing", s, size, n)
				}
			}
			if met < 50 {
				t.Errorf("of %d bytes only %d texts have six bits", size, met)
			}
		}
	}
}

// fullFilter is a filter of size bytes of bits, all of them set.
func fullFilter(size int) []byte {
	return append(bytes.Repeat([]byte{0xff}, size), 6)
}

// onlyFilter is one of which no bits but those of l are set.
func onlyFilter(size int, l []int) []byte {
	f := append(make([]byte, size), 6)
	for _, k := range l {
		f[k/8] |= 1 << (k % 8)
	}
	return f
}

func TestMayOfBitsThatAreNotItsOwn(t *testing.T) {
	// All bits but a text's: each of those that are set says nothing of it.
	for _, size := range []int{8, 9, 126} {
		for _, s := range manyTexts() {
			f := fullFilter(size)
			for _, k := range roundPlaces(s, 8*size) {
				f[k/8] &^= 1 << (k % 8)
			}
			if May(f, s) {
				t.Errorf("P15.1: %.20q in %d bytes: all its bits are missing", s, size)
			}
		}
	}
}

func TestMayOfAFilterWithNoBitAndWithAll(t *testing.T) {
	for _, size := range []int{1, 2, 3, 4, 5, 6, 7, 8, 9, 10, 16, 31, 100, 1250, 1 << 20} {
		none, all := onlyFilter(size, nil), fullFilter(size)
		for _, s := range manyTexts()[:300] {
			if May(none, s) || !May(all, s) {
				t.Errorf("P15.1: %.20q in %d bytes, with no bit and with all", s, size)
			}
		}
	}
	for _, s := range manyTexts() {
		if May(Make(nil), s) {
			t.Errorf("P15.1: %.20q is in the filter of no texts", s)
		}
	}
}

func TestMayOfEmptyFiltersAndOfOneByte(t *testing.T) {
	room := []byte{0, 0, 6}
	for _, s := range manyTexts() {
		for _, f := range [][]byte{nil, {}, make([]byte, 0, 9), room[:0], room[3:]} {
			if !May(f, s) {
				t.Errorf("P15.1: May of an empty filter and %.20q", s)
			}
		}
	}
	for i := range 256 {
		for _, s := range []string{"", "a", "e\u0301", "\xff", "\x06"} {
			if !May([]byte{byte(i)}, s) {
				t.Errorf("P15.1: May of the byte %d alone and %q", i, s)
			}
		}
	}
}

func TestMayByTheLastByte(t *testing.T) {
	for last := range 256 {
		for _, size := range []int{1, 2, 8, 9, 100} {
			for _, c := range []byte{0, 1, 6, 0x80} {
				f := append(bytes.Repeat([]byte{c}, size), byte(last))
				for _, s := range []string{"", "a", "abc", "e\u0301", "\xff", strings.Repeat("k", 4096)} {
					if last != 6 && !May(f, s) {
						t.Fatalf("P15.1: the last byte %d behind %d of %d, and %.20q", last, size, c, s)
					}
					wantMay(t, f, s)
				}
			}
		}
	}
	// One that Make made, with another last byte: it rules nothing out.
	for _, last := range []byte{0, 1, 5, 7, 16, 0x86, 255} {
		f := Make([]string{"a", "b"})
		f[len(f)-1] = last
		for _, s := range manyTexts() {
			if !May(f, s) {
				t.Fatalf("P15.1: the last byte %d, and %.20q", last, s)
			}
		}
	}
}

func TestMayOfTwoBytes(t *testing.T) {
	for i := range 256 {
		for _, s := range manyTexts()[:200] {
			wantMay(t, []byte{byte(i), 6}, s)
		}
	}
	if May([]byte{0, 6}, "a") || !May([]byte{255, 6}, "a") || !May([]byte{0, 5}, "a") {
		t.Error("P15.1: May of two bytes")
	}
}

func TestMayOfAnyBytes(t *testing.T) {
	met := map[bool]int{}
	for size := range 140 {
		for seed := range uint64(6) {
			f := append(mixedBytes(size, seed, seed > 1), 6)
			for _, s := range numbered("key", 20) {
				wantMay(t, f, s)
				met[May(f, s)]++
			}
			wantMay(t, f, "")
			wantMay(t, f, "\xff\x00")
			wantMay(t, mixedBytes(size, seed, false), "a")
		}
	}
	if met[true] < 1000 || met[false] < 1000 {
		t.Errorf("only %d are met and %d not", met[true], met[false])
	}
	for _, size := range []int{999, 4096, 65537, 1 << 20} {
		f := append(mixedBytes(size, 15, true), 6)
		for _, s := range numbered("key", 500) {
			wantMay(t, f, s)
		}
	}
}

func TestMayOfOneCutOrMadeLonger(t *testing.T) {
	norms := numbered("k", 20)
	f := Make(norms)
	for n := range f {
		for _, s := range norms {
			wantMay(t, f[:n], s)
			wantMay(t, f[n:], s)
		}
	}
	// A 6 more makes it another filter, of other bits.
	for _, s := range append(norms, numbered("x", 200)...) {
		wantMay(t, append(slices.Clone(f), 6), s)
		wantMay(t, append(slices.Clone(f), 0), s)
	}
}

func TestMayLeavesTheFilter(t *testing.T) {
	for _, size := range []int{0, 1, 2, 9, 10, 126} {
		room := append(mixedBytes(size, 3, true), 6, 0xa5, 0x5a)
		want := slices.Clone(room)
		f := room[:size+1]
		first := map[string]bool{}
		for _, s := range manyTexts() {
			first[s] = May(f, s)
		}
		if !bytes.Equal(room, want) {
			t.Errorf("P0.3: May changes a filter of %d bytes", len(f))
		}
		for _, s := range manyTexts() {
			// What was asked between counts for nothing.
			if May(fullFilter(3), s); May(f, s) != first[s] {
				t.Errorf("P0.5: May of %d bytes and %.20q, asked again", len(f), s)
			}
		}
		fill(room, 0)
		if len(f) > 1 && !May(f, "a") {
			t.Errorf("P0.3: May keeps a filter of %d bytes", len(f))
		}
	}
}

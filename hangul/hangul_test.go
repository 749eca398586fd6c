package hangul

import (
	"fmt"
	"math"
	"slices"
	"testing"
)

// syllable is one with the characters that it is made of.
type syllable struct {
	c int
	l []int
}

// all are the syllables by the chapter's rule, counted up rather than worked
// out.
func all() []syllable {
	var list []syllable
	c := 0xAC00
	for l := 0x1100; l <= 0x1112; l++ {
		for v := 0x1161; v <= 0x1175; v++ {
			list = append(list, syllable{c, []int{l, v}})
			c++
			for t := 0x11A8; t <= 0x11C2; t++ {
				list = append(list, syllable{c, []int{l, v, t}})
				c++
			}
		}
	}
	return list
}

// wantSplit fails unless Split tells l of c, nil where l is nil.
func wantSplit(t *testing.T, c int, l []int) {
	t.Helper()
	if got := Split(c); !slices.Equal(got, l) || (got == nil) != (l == nil) {
		t.Fatalf("P3.1: Split(%X): %X, not %X", c, got, l)
	}
}

// wantJoin fails unless Join tells c of the characters of l, two or three.
func wantJoin(t *testing.T, l []int, c int) {
	t.Helper()
	lead, vowel, tail := l[0], l[1], 0
	if len(l) > 2 {
		tail = l[2]
	}
	if got := Join(lead, vowel, tail); got != c {
		t.Fatalf("P3.1: Join(%X, %X, %X): %X, not %X", lead, vowel, tail, got, c)
	}
}

// wantNone fails unless Join tells that the three are not such.
func wantNone(t *testing.T, lead, vowel, tail int) {
	t.Helper()
	if got := Join(lead, vowel, tail); got != -1 {
		t.Fatalf("P3.1: Join(%X, %X, %X): %X, not -1", lead, vowel, tail, got)
	}
}

// farNumbers are numbers that are no syllable and no part of one, some of
// them such if the sign goes, if a difference wraps, or if they are cut to
// fewer bits.
func farNumbers() []int {
	return []int{
		-1, -0xAC00, -0xAC01, -0x1100, -0x1161, -0x11A8, math.MinInt,
		math.MinInt + 1, math.MinInt + 0xABFF, math.MinInt + 0xAC00,
		math.MinInt + 0x1100, math.MinInt + 0x1161, math.MinInt + 0x11A8,
		math.MinInt32, math.MinInt32 + 0xAC00, 0xD800, 0x10FFFF, 0x110000,
		1<<16 + 0xAC00, 1<<16 + 0x1100, 1<<16 + 0x1161, 1<<16 + 0x11A8,
		1<<32 + 0xAC00, 1<<32 + 0x1100, 1<<32 + 0x1161, 1<<32 + 0x11A8, 1 << 32,
		1 << 62, math.MaxInt32, math.MaxInt, math.MaxInt - 0xAC00,
	}
}

func TestOrdinarySyllables(t *testing.T) {
	for _, s := range []syllable{
		{0xAC00, []int{0x1100, 0x1161}},
		{0xAC01, []int{0x1100, 0x1161, 0x11A8}},
		{0xAC1B, []int{0x1100, 0x1161, 0x11C2}},
		{0xAC1C, []int{0x1100, 0x1162}},
		{0xAE4B, []int{0x1100, 0x1175, 0x11C2}},
		{0xAE4C, []int{0x1101, 0x1161}},
		{0xAE00, []int{0x1100, 0x1173, 0x11AF}},
		{0xD55C, []int{0x1112, 0x1161, 0x11AB}},
		{0xD4DB, []int{0x1111, 0x1171, 0x11B6}},
		{0xD788, []int{0x1112, 0x1175}},
		{0xD7A3, []int{0x1112, 0x1175, 0x11C2}},
	} {
		wantSplit(t, s.c, s.l)
		wantJoin(t, s.l, s.c)
	}
}

func TestEverySyllable(t *testing.T) {
	list := all()
	if last := list[len(list)-1].c; last != 0xD7A3 {
		t.Fatalf("P3.1: the last syllable is %X", last)
	}
	for _, s := range list {
		wantSplit(t, s.c, s.l)
		wantJoin(t, s.l, s.c)
	}
}

func TestSplitOfNone(t *testing.T) {
	for c := -0xE000; c < 0x120000; c++ {
		if c < 0xAC00 || c > 0xD7A3 {
			wantSplit(t, c, nil)
		}
	}
	for _, c := range farNumbers() {
		wantSplit(t, c, nil)
	}
}

func TestJoinBesideEachEdge(t *testing.T) {
	for _, tail := range []int{0, 0x11A8, 0x11C2} {
		for _, vowel := range []int{0x1161, 0x1175} {
			wantNone(t, 0x10FF, vowel, tail)
			wantNone(t, 0x1113, vowel, tail)
		}
		for _, lead := range []int{0x1100, 0x1112} {
			wantNone(t, lead, 0x1160, tail)
			wantNone(t, lead, 0x1176, tail)
		}
	}
	for _, lead := range []int{0x1100, 0x1112} {
		for _, vowel := range []int{0x1161, 0x1175} {
			wantNone(t, lead, vowel, 0x11A7)
			wantNone(t, lead, vowel, 0x11C3)
			wantNone(t, lead, vowel, 1)
			wantNone(t, lead, vowel, 27)
			wantNone(t, lead, vowel, -1)
		}
	}
}

func TestJoinOfNone(t *testing.T) {
	for c := -0x2000; c < 0xE000; c++ {
		if c < 0x1100 || c > 0x1112 {
			wantNone(t, c, 0x1161, 0)
			wantNone(t, c, 0x1175, 0x11C2)
		}
		if c < 0x1161 || c > 0x1175 {
			wantNone(t, 0x1100, c, 0)
			wantNone(t, 0x1112, c, 0x11C2)
		}
		if c != 0 && (c < 0x11A8 || c > 0x11C2) {
			wantNone(t, 0x1100, 0x1161, c)
			wantNone(t, 0x1112, 0x1175, c)
		}
	}
}

func TestJoinOfFarNumbers(t *testing.T) {
	far := farNumbers()
	for _, a := range far {
		wantNone(t, a, 0x1161, 0x11A8)
		wantNone(t, 0x1100, a, 0x11A8)
		wantNone(t, 0x1100, 0x1161, a)
		for _, b := range far {
			wantNone(t, a, b, 0)
			wantNone(t, a, 0x1161, b)
			wantNone(t, 0x1100, a, b)
			for _, c := range far {
				wantNone(t, a, b, c)
			}
		}
	}
}

func TestJoinOfOthersPlaces(t *testing.T) {
	// A part of a syllable counts at its own place alone, and by the number
	// of a character, not by its place in the row.
	wantNone(t, 0x1161, 0x1100, 0)
	wantNone(t, 0x1100, 0x1161, 0x1100)
	wantNone(t, 0x1100, 0x11A8, 0x1161)
	wantNone(t, 0x11A8, 0x1161, 0x1100)
	wantNone(t, 0xAC00, 0x11A8, 0)
	wantNone(t, 0xAC00, 0x1161, 0x11A8)
	wantNone(t, 0, 0, 0)
	wantNone(t, 18, 20, 27)
	wantNone(t, 0, 0x1161, 0)
	wantNone(t, 0x1100, 0, 0)
	wantNone(t, 0x1100, 0x1161, 27)
}

func TestAnswersAreNewMemory(t *testing.T) {
	for _, c := range []int{0xAC00, 0xAC01, 0xD7A3} {
		first, second := Split(c), Split(c)
		want := fmt.Sprint(second)
		whole := first[:cap(first)]
		for i := range whole {
			whole[i] = -7
		}
		if third := Split(c); fmt.Sprint(second) != want || fmt.Sprint(third) != want {
			t.Errorf("P0.3: Split(%X): %v, %v, not %v", c, second, third, want)
		}
	}
}

func TestSameAnswerAgain(t *testing.T) {
	for _, c := range []int{-1, 0x1100, 0xAC00, 0xAC01, 0xD7A3, 0xD7A4, math.MaxInt} {
		l, joined := Split(c), Join(0x1100, c, 0x11A7)
		Split(0xD55C)
		Join(0x1112, 0x1161, 0x11AB)
		if !slices.Equal(Split(c), l) || Join(0x1100, c, 0x11A7) != joined {
			t.Errorf("P0.5: %X is answered otherwise the second time", c)
		}
	}
}

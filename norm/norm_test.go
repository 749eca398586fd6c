package norm

import (
	"fmt"
	"math"
	"slices"
	"strconv"
	"strings"
	"testing"

	"incipit/api"
)

// model is the chapter's rule over api's tables, read and followed by another
// way than the package's.
type model struct {
	classes map[int]int
	maps    map[int][]int
}

func newModel(t *testing.T) model {
	t.Helper()
	m := model{map[int]int{}, map[int][]int{}}
	for _, line := range strings.Split(strings.TrimSpace(api.Classes), "\n") {
		f := strings.Fields(line)
		for c := parse(t, f[0], 16); c <= parse(t, f[1], 16); c++ {
			m.classes[c] = parse(t, f[2], 10)
		}
	}
	for _, line := range strings.Split(strings.TrimSpace(api.Maps), "\n") {
		f := strings.Fields(line)
		for _, to := range f[1:] {
			c := parse(t, f[0], 16)
			m.maps[c] = append(m.maps[c], parse(t, to, 16))
		}
	}
	c := 0xAC00
	for l := 0x1100; l <= 0x1112; l++ {
		for v := 0x1161; v <= 0x1175; v++ {
			m.maps[c] = []int{l, v}
			for i := 1; i <= 27; i++ {
				m.maps[c+i] = []int{l, v, 0x11A7 + i}
			}
			c += 28
		}
	}
	return m
}

func parse(t *testing.T, s string, base int) int {
	t.Helper()
	n, err := strconv.ParseInt(s, base, 64)
	if err != nil {
		t.Fatal(err)
	}
	return int(n)
}

// chars swaps neighbours that stand wrong until there are none.
func (m model) chars(l []int) []int {
	var list []int
	for _, c := range l {
		if to, ok := m.maps[c]; ok {
			list = append(list, to...)
		} else {
			list = append(list, c)
		}
	}
	for swapped := true; swapped; {
		swapped = false
		for i := 1; i < len(list); i++ {
			a, b := m.classes[list[i-1]], m.classes[list[i]]
			if b > 0 && a > b {
				list[i-1], list[i] = list[i], list[i-1]
				swapped = true
			}
		}
	}
	return list
}

// marks are the characters of classes above 0, rising.
func (m model) marks() []int {
	var l []int
	for c := range m.classes {
		l = append(l, c)
	}
	slices.Sort(l)
	return l
}

// wantChars fails unless Chars tells want of l.
func wantChars(t *testing.T, l, want []int) {
	t.Helper()
	if got := Chars(l); !slices.Equal(got, want) {
		t.Fatalf("P4.1: Chars(%X): %X, not %X", l, got, want)
	}
}

// wantText fails unless want is the canonical form of s, and Is and Same tell
// the like.
func wantText(t *testing.T, s, want string) {
	t.Helper()
	if got, ok := Text(s); got != want || !ok {
		t.Fatalf("P4.1: Text(%+q): %+q, %v, not %+q", s, got, ok, want)
	}
	if got, ok := Text(want); got != want || !ok {
		t.Fatalf("P4.1: Text(%+q): %+q, %v, not itself", want, got, ok)
	}
	if Is(s) != (s == want) || !Is(want) {
		t.Fatalf("P4.1: Is(%+q): %v; Is(%+q): %v", s, Is(s), want, Is(want))
	}
	if !Same(s, want) || !Same(want, s) || !Same(s, s) {
		t.Fatalf("P4.1: Same(%+q, %+q) is false", s, want)
	}
}

// wantOther fails unless a and b are told to be different.
func wantOther(t *testing.T, a, b string) {
	t.Helper()
	if Same(a, b) || Same(b, a) {
		t.Errorf("P4.1: Same(%+q, %+q) is true", a, b)
	}
}

// noChars are numbers that are no character's, some of them a mark's, a
// syllable's or one that comes to others if the sign goes or they are cut to
// fewer bits.
func noChars() []int {
	return []int{
		-1, -5, -0xE9, -0x301, -0xAC00, math.MinInt, math.MinInt + 0xE9,
		math.MinInt + 0x301, math.MinInt + 0xAC00, math.MinInt32, 0xD800, 0xDBFF,
		0xDC00, 0xDFFF, 0x110000, 0x110301, 0x1100E9, 1<<16 + 0x10FFFF,
		1<<32 + 0xE9, 1<<32 + 0x301, 1<<32 + 0xAC00, 1 << 40, 1 << 62,
		math.MaxInt32, math.MaxInt, math.MaxInt - 0xFF,
	}
}

func TestOrdinaryTexts(t *testing.T) {
	wantText(t, "abc", "abc")
	wantText(t, " \x00~\x7f", " \x00~\x7f")
	wantText(t, "\u20ac\U0001f600", "\u20ac\U0001f600")
	wantText(t, "\u00e9", "e\u0301")
	wantText(t, "caf\u00e9s", "cafe\u0301s")
	wantText(t, "e\u0301", "e\u0301")
	wantText(t, "\u212b", "A\u030a")
	wantText(t, "\u01e0", "A\u0307\u0304")
	wantText(t, "\u1e08", "C\u0327\u0301")
	wantText(t, "\U0001d160", "\U0001d158\U0001d165\U0001d16e")
	wantText(t, "\u00c5\u00c4\u00d6", "A\u030aA\u0308O\u0308")
}

func TestMarksAreOrdered(t *testing.T) {
	wantText(t, "a\u0301\u0323", "a\u0323\u0301")
	wantText(t, "a\u0323\u0301", "a\u0323\u0301")
	wantText(t, "\u00e1\u0323", "a\u0323\u0301")
	wantText(t, "a\u0345\u0301\u0334\u0327b\u0301", "a\u0334\u0327\u0301\u0345b\u0301")
	wantText(t, "\u0344\u0323", "\u0323\u0308\u0301")
	wantText(t, "a\u0345\u0344\u0334", "a\u0334\u0308\u0301\u0345")
	// By the classes, not by the numbers: 3099 is of class 8, 345 of 240.
	wantText(t, "\u304b\u0301\u3099", "\u304b\u3099\u0301")
	wantText(t, "\u304b\u0345\u3099", "\u304b\u3099\u0345")
	wantText(t, "x\u0300\U0001d165\u0334", "x\u0334\U0001d165\u0300")
}

func TestEqualClassesStay(t *testing.T) {
	wantText(t, "a\u0301\u0300", "a\u0301\u0300")
	wantText(t, "a\u0300\u0301", "a\u0300\u0301")
	wantOther(t, "a\u0300\u0301", "a\u0301\u0300")
	wantText(t, "a\u0301\u0323\u0300\u0316", "a\u0323\u0316\u0301\u0300")
	wantText(t, "\u00e1\u0300", "a\u0301\u0300")
	// 344 comes to two of the class of 300.
	wantText(t, "a\u0344\u0300", "a\u0308\u0301\u0300")
	wantText(t, "a\u0300\u0344", "a\u0300\u0308\u0301")
}

func TestRunsStandApart(t *testing.T) {
	wantText(t, "a\u0301b\u0323", "a\u0301b\u0323")
	wantText(t, "a\u0345\u0301b\u0301\u0323c\u0323\u0334", "a\u0301\u0345b\u0323\u0301c\u0334\u0323")
	// What is taken apart begins a new run unless it is of marks alone.
	wantText(t, "a\u0301\u00e1\u0323", "a\u0301a\u0323\u0301")
	wantText(t, "\u00e9\u00e9\u0323\u00e9", "e\u0301e\u0323\u0301e\u0301")
}

func TestRunsAtTheEnds(t *testing.T) {
	wantText(t, "\u0301\u0323x", "\u0323\u0301x")
	wantText(t, "\u0301\u0323", "\u0323\u0301")
	wantText(t, "\u0301", "\u0301")
	wantText(t, "\u0344", "\u0308\u0301")
	wantText(t, "\u0345\u0344\u0334\u00e9", "\u0334\u0308\u0301\u0345e\u0301")
	wantText(t, "x\u0301\u0323", "x\u0323\u0301")
}

func TestSyllables(t *testing.T) {
	wantText(t, "\ud55c", "\u1112\u1161\u11ab")
	wantText(t, "\uac00", "\u1100\u1161")
	wantText(t, "\uac01", "\u1100\u1161\u11a8")
	wantText(t, "\ud7a3", "\u1112\u1175\u11c2")
	wantText(t, "\uabff\ud7a4", "\uabff\ud7a4")
	wantText(t, "\ud55c\uae00", "\u1112\u1161\u11ab\u1100\u1173\u11af")
	wantText(t, "\ud55c\u0301\u0323", "\u1112\u1161\u11ab\u0323\u0301")
	wantText(t, "a\u0301\uac00\u0323", "a\u0301\u1100\u1161\u0323")
	wantText(t, "\u1100\u1161\u11a8", "\u1100\u1161\u11a8")
	if !Same("\uac00\u11a8", "\uac01") || !Same("\u1100\u1161\u11a8", "\uac01") {
		t.Error("P4.1: the spellings of AC01 are not the same")
	}
	wantOther(t, "\uac00", "\uac01")
	wantOther(t, "\u1100\u1161\u11a7", "\uac00")
}

func TestNoCharacters(t *testing.T) {
	wantText(t, "", "")
	wantChars(t, nil, nil)
	wantChars(t, []int{}, nil)
	wantOther(t, "", "a")
	wantOther(t, "", "\x00")
	wantOther(t, "", "\u0301")
}

func TestSame(t *testing.T) {
	for _, same := range [][]string{
		{"\u00c5", "\u212b", "A\u030a"},
		{"\u1e69", "s\u0323\u0307", "s\u0307\u0323"},
		{"\u00e1\u0323", "a\u0301\u0323", "a\u0323\u0301"},
		{"\u0344\u0323", "\u0308\u0301\u0323", "\u0308\u0323\u0301", "\u0323\u0344"},
		{"\ud55c", "\ud558\u11ab", "\u1112\u1161\u11ab"},
	} {
		for _, a := range same {
			for _, b := range same {
				if !Same(a, b) {
					t.Errorf("P4.1: Same(%+q, %+q) is false", a, b)
				}
			}
		}
	}
	wantOther(t, "a", "b")
	wantOther(t, "a", "A")
	wantOther(t, "a", "ab")
	wantOther(t, "\u00e9", "e")
	wantOther(t, "\u00e9", "\u00e8")
	wantOther(t, "e\u0301\u0323", "e\u0301b\u0323")
}

func TestNoUTF8(t *testing.T) {
	for _, s := range []string{
		"\xff", "a\xff", "\xffa", "\u00e9\xff", "\x80", "a\u0301\x81", "\xc3", "e\xcc",
		"\xc0\x80", "\xe0\x80\x80", "\xed\xa0\x80", "\xed\xbf\xbf", "\xf0\x80\x80\x80",
		"\xf4\x90\x80\x80", "\xf8\x88\x80\x80\x80", "\xed\x95", "\x00\xfe",
	} {
		if got, ok := Text(s); got != "" || ok {
			t.Errorf("P4.1: Text(%+q): %+q, %v", s, got, ok)
		}
		if Is(s) {
			t.Errorf("P4.1: Is(%+q) is true", s)
		}
		// Text tells "" of it, which is of "" the right answer.
		for _, other := range []string{"", "a", s, "\xff", strings.ToValidUTF8(s, ""), strings.ToValidUTF8(s, "\ufffd")} {
			wantOther(t, s, other)
		}
	}
}

func TestNumbersThatAreNoCharacters(t *testing.T) {
	for _, c := range noChars() {
		wantChars(t, []int{c}, []int{c})
		wantChars(t, []int{c, c}, []int{c, c})
		// It is of class 0: no mark passes it.
		wantChars(t, []int{0x301, 0x323, c, 0xE9, 0x323, c, 0x334}, []int{0x323, 0x301, c, 'e', 0x323, 0x301, c, 0x334})
		wantChars(t, []int{0x301, c, 0x323}, []int{0x301, c, 0x323})
		wantChars(t, []int{c, 0x301, 0x323, c, 0xD55C}, []int{c, 0x323, 0x301, c, 0x1112, 0x1161, 0x11AB})
	}
	wantChars(t, []int{-5, 0x301, 0x323, 1 << 40, 0xE9, 0xD800}, []int{-5, 0x323, 0x301, 1 << 40, 'e', 0x301, 0xD800})
	list := noChars()
	slices.Sort(list)
	slices.Reverse(list)
	wantChars(t, list, list)
}

func TestEveryNumber(t *testing.T) {
	m := newModel(t)
	for c := -0x400; c < 0x120000; c++ {
		l := []int{c, 0x334}
		wantChars(t, l, m.chars(l))
	}
	for c, l := range m.maps {
		wantText(t, string(rune(c)), asText(l))
	}
	for c := range m.classes {
		wantText(t, string(rune(c)), asText(m.chars([]int{c})))
	}
}

// asText is the text of l, whose numbers are characters.
func asText(l []int) string {
	var b strings.Builder
	for _, c := range l {
		b.WriteRune(rune(c))
	}
	return b.String()
}

func TestEveryPairOfMarks(t *testing.T) {
	m := newModel(t)
	marks := m.marks()
	for _, a := range marks {
		for _, b := range marks {
			l := []int{'a', a, b, 0x323}
			wantChars(t, l, m.chars(l))
		}
	}
}

func TestLongRuns(t *testing.T) {
	m := newModel(t)
	marks := m.marks()
	var rows [][]int
	for step := 1; step < len(marks); step++ {
		var run []int
		for i := range marks {
			run = append(run, marks[i*step%len(marks)])
		}
		rows = append(rows, run, slices.Concat([]int{'x', 0xE9}, run, []int{0xAC01}, run))
	}
	for _, row := range rows {
		wantChars(t, row, m.chars(row))
		wantText(t, asText(row), asText(m.chars(row)))
	}
}

func TestLongRunOfTwoClasses(t *testing.T) {
	// Each class goes through many marks, so that one that loses its place is
	// seen.
	const times = 5000
	var l, low, high []int
	for i := range times {
		h, n := 0x300+i%0x15, 0x329+i%0xB
		l = append(l, h, n)
		low, high = append(low, n), append(high, h)
	}
	want := slices.Concat(low, high)
	wantChars(t, l, want)
	wantText(t, asText(l), asText(want))
}

func TestLongTexts(t *testing.T) {
	const times = 3000
	wantText(t, strings.Repeat("\u00e1\u0323", times), strings.Repeat("a\u0323\u0301", times))
	wantText(t, strings.Repeat("a", times), strings.Repeat("a", times))
	wantText(t, strings.Repeat("\ud55c", times), strings.Repeat("\u1112\u1161\u11ab", times))
}

func TestArgumentsStay(t *testing.T) {
	for _, given := range [][]int{
		{'a', 0x301, 0x323, 7, 8, 9, 10},
		{0xE9, 0xD55C, 0x323, 7, 8, 9, 10},
		{'a', 'b', 'c', 7, 8, 9, 10},
	} {
		before := slices.Clone(given)
		got := Chars(given[:3])
		whole := got[:cap(got)]
		for i := range whole {
			whole[i] = -7
		}
		if !slices.Equal(given, before) {
			t.Errorf("P0.3: Chars(%X) changed it to %X", before, given)
		}
		// What is written into the list later does not reach an answer.
		got = Chars(given[:3])
		want := slices.Clone(got)
		for i := range given {
			given[i] = -7
		}
		if !slices.Equal(got, want) {
			t.Errorf("P0.3: the answer %X became %X", want, got)
		}
	}
}

func TestAnswersAreNewMemory(t *testing.T) {
	for _, l := range [][]int{nil, {'a'}, {0xE9}, {0xD55C}, {0x301, 0x323}, {-1}} {
		first, second := Chars(l), Chars(l)
		want := fmt.Sprint(second)
		whole := first[:cap(first)]
		for i := range whole {
			whole[i] = -7
		}
		if third := Chars(l); fmt.Sprint(second) != want || fmt.Sprint(third) != want {
			t.Errorf("P0.3: Chars(%X): %v, %v, not %v", l, second, third, want)
		}
	}
}

func TestSameAnswerAgain(t *testing.T) {
	for _, s := range []string{"", "a", "\u00e1\u0323", "\ud55c", "\xff"} {
		text, ok := Text(s)
		is, same := Is(s), Same(s, "a")
		Chars([]int{0x301, 0x323, -1})
		Text("\u0345\u0344")
		again, okAgain := Text(s)
		if again != text || okAgain != ok || Is(s) != is || Same(s, "a") != same {
			t.Errorf("P0.5: %+q is answered otherwise the second time", s)
		}
	}
}

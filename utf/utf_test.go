package utf

import (
	"fmt"
	"math"
	"slices"
	"strings"
	"testing"
	"unicode/utf8"
)

// edge is a character at an end of what some form can write.
type edge struct {
	c int
	s string
}

// edges are the characters that the chapter's bounds name, by their bytes.
func edges() []edge {
	return []edge{
		{0, "\x00"},
		{0x7F, "\x7F"},
		{0x80, "\xC2\x80"},
		{0x7FF, "\xDF\xBF"},
		{0x800, "\xE0\xA0\x80"},
		{0xD7FF, "\xED\x9F\xBF"},
		{0xE000, "\xEE\x80\x80"},
		{0xFFFF, "\xEF\xBF\xBF"},
		{0x10000, "\xF0\x90\x80\x80"},
		{0x10FFFF, "\xF4\x8F\xBF\xBF"},
	}
}

// noChars are numbers that are no character's, some of them one's if they
// are cut to fewer bits.
func noChars() []int {
	return []int{
		-1, -128, -0x80, -0xD800, -0x110000, math.MinInt, math.MinInt + 'a',
		math.MinInt32, 0xD800, 0xD801, 0xDBFF, 0xDC00, 0xDFFE, 0xDFFF,
		0x110000, 0x110001, 0x1FFFFF, 0x200000, math.MaxInt32,
		1<<32 + 'a', 1<<40 + 0x20AC, math.MaxInt,
	}
}

// noTexts are bytes that begin with no character, by what is wrong with them.
func noTexts() map[string]string {
	return map[string]string{
		"tail alone":            "\x80",
		"last tail alone":       "\xBF",
		"0 in two":              "\xC0\x80",
		"7F in two":             "\xC1\xBF",
		"0 in three":            "\xE0\x80\x80",
		"7F in three":           "\xE0\x81\xBF",
		"7FF in three":          "\xE0\x9F\xBF",
		"0 in four":             "\xF0\x80\x80\x80",
		"7FF in four":           "\xF0\x80\x9F\xBF",
		"FFFF in four":          "\xF0\x8F\xBF\xBF",
		"D800":                  "\xED\xA0\x80",
		"DBFF":                  "\xED\xAF\xBF",
		"DC00":                  "\xED\xB0\x80",
		"DFFF":                  "\xED\xBF\xBF",
		"a pair of surrogates":  "\xED\xA0\x80\xED\xB0\x80",
		"D800 in four":          "\xF0\x8D\xA0\x80",
		"110000":                "\xF4\x90\x80\x80",
		"13FFFF":                "\xF4\xBF\xBF\xBF",
		"140000":                "\xF5\x80\x80\x80",
		"1FFFFF":                "\xF7\xBF\xBF\xBF",
		"five bytes":            "\xF8\x88\x80\x80\x80",
		"a in five bytes":       "\xF8\x80\x80\x81\xA1",
		"six bytes":             "\xFC\x84\x80\x80\x80\x80",
		"FE":                    "\xFE",
		"FF":                    "\xFF",
		"second is no tail":     "\xC3(",
		"second is a lead":      "\xC3\xC3",
		"third is no tail":      "\xE2\x82(",
		"third is a lead":       "\xE2\x82\xC3",
		"fourth is no tail":     "\xF0\x9F\x98(",
		"fourth is a lead":      "\xF0\x9F\x98\xF0",
		"tails under 80":        "\xE2\x02\x2C",
		"two cut short":         "\xC3",
		"three cut to one":      "\xE2",
		"three cut to two":      "\xE2\x82",
		"four cut to one":       "\xF0",
		"four cut to two":       "\xF0\x9F",
		"four cut to three":     "\xF0\x9F\x98",
		"cut short, a behind":   "\xE2\x82a",
		"lead, text behind":     "\xF0abc",
		"lead, characters then": "\xC3\u00e9",
	}
}

// wantFirst fails unless First tells c and n of s.
func wantFirst(t *testing.T, s string, c, n int) {
	t.Helper()
	if gotC, gotN := First(s); gotC != c || gotN != n {
		t.Fatalf("P1.1: First(%x): %d, %d, not %d, %d", s, gotC, gotN, c, n)
	}
}

// wantRead fails unless Read tells l of s.
func wantRead(t *testing.T, s string, l []int) {
	t.Helper()
	if got, ok := Read(s); !ok || !slices.Equal(got, l) {
		t.Fatalf("P1.1: Read(%x): %v, %v, not %v", s, got, ok, l)
	}
}

// wantNoRead fails unless Read tells that not all of s is characters.
func wantNoRead(t *testing.T, s string) {
	t.Helper()
	if got, ok := Read(s); ok || got != nil {
		t.Fatalf("P1.1: Read(%x): %v, %v", s, got, ok)
	}
}

// wantWrite fails unless Write makes s of l.
func wantWrite(t *testing.T, l []int, s string) {
	t.Helper()
	if got, ok := Write(l); !ok || got != s {
		t.Fatalf("P1.1: Write(%v): %x, %v, not %x", l, got, ok, s)
	}
}

func TestValid(t *testing.T) {
	for _, e := range edges() {
		if !Valid(e.c) {
			t.Errorf("P1.1: Valid(%X) is false", e.c)
		}
	}
	for _, c := range noChars() {
		if Valid(c) {
			t.Errorf("P1.1, P0.6: Valid(%d) is true", c)
		}
	}
}

func TestEveryNumber(t *testing.T) {
	for c := -0x1000; c < 0x120000; c++ {
		want := utf8.ValidRune(rune(c))
		if Valid(c) != want {
			t.Fatalf("P1.1: Valid(%X) is %v", c, !want)
		}
		if !want {
			if s, ok := Write([]int{c}); ok || s != "" {
				t.Fatalf("P1.1: Write(%X): %x, %v", c, s, ok)
			}
			continue
		}
		s := string(rune(c))
		wantWrite(t, []int{c}, s)
		wantRead(t, s, []int{c})
		wantFirst(t, s, c, len(s))
	}
}

func TestEdges(t *testing.T) {
	var all []int
	var text strings.Builder
	for _, e := range edges() {
		wantWrite(t, []int{e.c}, e.s)
		wantRead(t, e.s, []int{e.c})
		wantFirst(t, e.s, e.c, len(e.s))
		all = append(all, e.c)
		text.WriteString(e.s)
	}
	wantWrite(t, all, text.String())
	wantRead(t, text.String(), all)
}

func TestOrdinaryTexts(t *testing.T) {
	wantRead(t, "abc", []int{'a', 'b', 'c'})
	wantRead(t, "a\u00e9\u20ac\U0001d160!", []int{'a', 0xE9, 0x20AC, 0x1D160, '!'})
	wantWrite(t, []int{'a', 0xE9, 0x20AC, 0x1D160, '!'}, "a\u00e9\u20ac\U0001d160!")
	// Read takes nothing away and puts nothing together.
	wantRead(t, "\uFEFFe\u0301\uFFFD", []int{0xFEFF, 'e', 0x301, 0xFFFD})
	long := strings.Repeat("\u20ac", 1<<16)
	l, ok := Read(long)
	if !ok || len(l) != 1<<16 || slices.Max(l) != 0x20AC || slices.Min(l) != 0x20AC {
		t.Error("P1.1: Read of a long text")
	}
	wantWrite(t, l, long)
}

func TestFirstOfMore(t *testing.T) {
	// What stands behind the first character is not looked at.
	for _, behind := range []string{"a", "\u20ac", "\x00", "\x80", "\xBF", "\xFF", "\xE2\x82"} {
		for _, e := range edges() {
			wantFirst(t, e.s+behind, e.c, len(e.s))
		}
	}
}

func TestNone(t *testing.T) {
	wantFirst(t, "", -1, 0)
	wantRead(t, "", nil)
	wantWrite(t, nil, "")
	wantWrite(t, []int{}, "")
}

func TestNoTexts(t *testing.T) {
	for what, s := range noTexts() {
		t.Run(what, func(t *testing.T) {
			wantFirst(t, s, -1, 0)
			wantNoRead(t, s)
			wantNoRead(t, "a\u20ac"+s)
			wantNoRead(t, s+"a")
			wantNoRead(t, "a"+s+"\u20ac")
		})
	}
}

func TestNoChars(t *testing.T) {
	for _, c := range noChars() {
		for _, l := range [][]int{{c}, {'a', c}, {c, 'a'}, {'a', c, 0x20AC}} {
			if s, ok := Write(l); ok || s != "" {
				t.Errorf("P1.1: Write(%v): %x, %v", l, s, ok)
			}
		}
	}
}

func TestCutShort(t *testing.T) {
	for _, e := range edges() {
		for n := 1; n < len(e.s); n++ {
			wantFirst(t, e.s[:n], -1, 0)
			wantNoRead(t, e.s[:n])
			wantNoRead(t, e.s+e.s[:n])
			wantNoRead(t, e.s[n:])
		}
	}
}

// The library decodes as strictly, but tells another number and width of what
// is no character.
func libraryFirst(s string) (int, int) {
	r, n := utf8.DecodeRuneInString(s)
	if r == utf8.RuneError && n < 2 {
		return -1, 0
	}
	return int(r), n
}

func TestAllShortBytes(t *testing.T) {
	for a := range 256 {
		for b := range 256 {
			for _, s := range []string{string([]byte{byte(a)}), string([]byte{byte(a), byte(b)})} {
				c, n := libraryFirst(s)
				wantFirst(t, s, c, n)
			}
		}
	}
}

// chosenBytes are those at which a decoder may go wrong.
func chosenBytes() []byte {
	return []byte("\x00a\x7F\x80\x8F\x90\x9F\xA0\xBF\xC0\xC1\xC2\xDF\xE0\xE1\xEC\xED\xEE\xEF\xF0\xF1\xF3\xF4\xF5\xF7\xF8\xFF")
}

func TestChosenBytes(t *testing.T) {
	chosen := chosenBytes()
	for _, a := range chosen {
		for _, b := range chosen {
			for _, c := range chosen {
				for _, d := range chosen {
					compareWithLibrary(t, string([]byte{a, b, c, d}))
				}
			}
		}
	}
}

// compareWithLibrary fails unless First, Read, Write agree with the library on s.
func compareWithLibrary(t *testing.T, s string) {
	t.Helper()
	c, n := libraryFirst(s)
	wantFirst(t, s, c, n)
	if !utf8.ValidString(s) {
		wantNoRead(t, s)
		return
	}
	var l []int
	for _, r := range s {
		l = append(l, int(r))
	}
	wantRead(t, s, l)
	wantWrite(t, l, s)
}

func TestAnswersAreNewMemory(t *testing.T) {
	first, _ := Read("ab")
	second, _ := Read("ab")
	whole := first[:cap(first)]
	for i := range whole {
		whole[i] = -7
	}
	third, _ := Read("ab")
	if fmt.Sprint(second, third) != "[97 98] [97 98]" {
		t.Errorf("P0.3: %v, %v", second, third)
	}
}

func TestArgumentsStayAsTheyWere(t *testing.T) {
	room := []int{'a', 0x20AC, -1, -2, -3}
	s, ok := Write(room[:2])
	if !ok || fmt.Sprint(room) != "[97 8364 -1 -2 -3]" {
		t.Errorf("P0.3: Write changed what it was given: %v", room)
	}
	room[0] = 'b'
	if s != "a\u20ac" {
		t.Errorf("P0.3: Write keeps what it was given: %q", s)
	}
}

func TestSameAnswerAgain(t *testing.T) {
	for _, s := range []string{"a\u20ac", "\xFF", "a\xFF", ""} {
		l, ok := Read(s)
		c, n := First(s)
		Read("\xC3")
		Write([]int{'x', -1})
		again, okAgain := Read(s)
		cAgain, nAgain := First(s)
		if !slices.Equal(l, again) || ok != okAgain || c != cAgain || n != nAgain {
			t.Errorf("P0.5: %x is answered otherwise the second time", s)
		}
	}
}

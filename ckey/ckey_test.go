package ckey

import (
	"bytes"
	"hash/fnv"
	"slices"
	"strings"
	"testing"

	"incipit/api"
	"incipit/norm"
)

// wantKey fails unless s spells a key of the form given.
func wantKey(t *testing.T, s, form string) {
	t.Helper()
	k, err := Make(s)
	if err != api.OK || k.Norm != form || k.Spelling != s {
		t.Errorf("P6.1: Make(%.40q): %.40q, %.40q, %v", s, k.Norm, k.Spelling, err)
	}
}

// wantNoKey fails unless s spells none.
func wantNoKey(t *testing.T, s string) {
	t.Helper()
	if k, err := Make(s); err != api.ErrBadKey || k != (Key{}) {
		t.Errorf("P6.1: Make(%.40q): %.40q, %.40q, %v", s, k.Norm, k.Spelling, err)
	}
}

func TestMakeOfOrdinaryTexts(t *testing.T) {
	wantKey(t, "a", "a")
	wantKey(t, "key 1", "key 1")
	wantKey(t, "\x00", "\x00")
	wantKey(t, "A a\n\t ", "A a\n\t ")
	wantKey(t, "\u20ac\U0001f600\ufeff\ufffd", "\u20ac\U0001f600\ufeff\ufffd")
	wantKey(t, "\U0010ffff", "\U0010ffff")
	wantKey(t, "caf\u00e9", "cafe\u0301")
	wantKey(t, "\u0301\u0323", "\u0323\u0301")
	wantKey(t, "\ud55c", "\u1112\u1161\u11ab")
}

func TestMakeKeepsTheSpelling(t *testing.T) {
	for form, spellings := range map[string][]string{
		"A\u030a":            {"A\u030a", "\u00c5", "\u212b"},
		"a\u0323\u0301":      {"a\u0323\u0301", "a\u0301\u0323", "\u00e1\u0323"},
		"\u1112\u1161\u11ab": {"\u1112\u1161\u11ab", "\ud558\u11ab", "\ud55c"},
		"K":                  {"K", "\u212a"},
	} {
		for _, s := range spellings {
			wantKey(t, s, form)
		}
	}
	a, _ := Make("\u00e9")
	for _, s := range []string{"e", "\u00e8", "\u00e9\u0301", "\u00c9"} {
		if b, err := Make(s); err != api.OK || a.Norm == b.Norm {
			t.Errorf("P6.1: %+q has the form of U+00E9", s)
		}
	}
}

func TestMakeOfAnEmptyText(t *testing.T) {
	wantNoKey(t, "")
}

func TestMakeCountsTheSpellingsBytes(t *testing.T) {
	for _, n := range []int{1, 2, 4094, 4095, 4096} {
		s := strings.Repeat("a", n)
		wantKey(t, s, s)
	}
	for _, n := range []int{4097, 4098, 5000, 8192, 1 << 16, 1 << 20} {
		wantNoKey(t, strings.Repeat("a", n))
	}
	// 4,096 bytes, fewer characters, and one byte more.
	wantKey(t, strings.Repeat("\u20ac", 1365)+"a", strings.Repeat("\u20ac", 1365)+"a")
	wantNoKey(t, strings.Repeat("\u20ac", 1365)+"ab")
	wantKey(t, strings.Repeat("\U0001f600", 1024), strings.Repeat("\U0001f600", 1024))
	wantNoKey(t, strings.Repeat("\U0001f600", 1024)+"a")
	wantNoKey(t, strings.Repeat("\u00e9", 2049))
}

func TestMakeDoesNotCountTheFormsBytes(t *testing.T) {
	// The form may be longer than a spelling may be.
	wantKey(t, strings.Repeat("\u0390", 2048), strings.Repeat("\u03b9\u0308\u0301", 2048))
	wantNoKey(t, strings.Repeat("\u0390", 2048)+"a")
	// A spelling that is too long may have a short form.
	wantKey(t, strings.Repeat("\u212a", 1365), strings.Repeat("K", 1365))
	wantNoKey(t, strings.Repeat("\u212a", 1366))
	wantNoKey(t, strings.Repeat("\u2126", 1366))
}

func TestMakeTakesManyMarks(t *testing.T) {
	// A stream holds back no more than 30 marks, a key may have more.
	wantKey(t, "a"+strings.Repeat("\u0301", 31), "a"+strings.Repeat("\u0301", 31))
	wantKey(t, strings.Repeat("\u0301\u0323", 1024), strings.Repeat("\u0323", 1024)+strings.Repeat("\u0301", 1024))
}

func TestMakeOfNoUTF8(t *testing.T) {
	for _, s := range []string{
		"\xff", "a\xff", "\xffa", "a\xffb", "\u00e9\xff", "\x80", "\xbf", "a\u0301\x81",
		"\xc3", "e\xcc", "\xe2\x82", "\xf0\x9f\x98", "\xc0\x80", "\xc1\xbf",
		"\xe0\x80\x80", "\xe0\x9f\xbf", "\xed\xa0\x80", "\xed\xbf\xbf",
		"\xf0\x80\x80\x80", "\xf0\x8f\xbf\xbf", "\xf4\x90\x80\x80", "\xf5\x80\x80\x80",
		"\xf8\x88\x80\x80\x80", "\xfe", "\xed\x95",
	} {
		wantNoKey(t, s)
		wantNoKey(t, strings.Repeat("a", 4096-len(s))+s)
		wantNoKey(t, strings.Repeat("a", 4096)+s)
	}
	// What is cut at the 4,096th byte is not UTF-8, what is whole is too long.
	cut := strings.Repeat("a", 4094) + "\u20ac"
	wantNoKey(t, cut[:4096])
	wantNoKey(t, cut)
}

func TestMakeAgain(t *testing.T) {
	for _, s := range []string{"a", "\u00e9\u0323", "", "\xff", strings.Repeat("b", 4097)} {
		first, err := Make(s)
		Make("\u0344")
		Make("")
		if again, errAgain := Make(s); again != first || errAgain != err {
			t.Errorf("P0.5: Make(%.20q) is answered otherwise the second time", s)
		}
	}
}

// someTexts are all texts of up to most bytes of those given.
func someTexts(given string, most int) []string {
	all, last := []string{""}, []string{""}
	for range most {
		var next []string
		for _, s := range last {
			for i := range len(given) {
				next = append(next, s+given[i:i+1])
			}
		}
		all, last = append(all, next...), next
	}
	return all
}

// manyTexts are texts whose bytes stand at the ends of what a byte may be and
// beside one another.
func manyTexts() []string {
	l := someTexts("\x00\x01\x02a\x7f\x80\x81\xfd\xfe\xff", 2)
	l = append(l, someTexts("\x00ab\xff", 3)...)
	slices.Sort(l)
	return slices.Compact(l)
}

func TestCompareByBytes(t *testing.T) {
	for _, a := range manyTexts() {
		for _, b := range manyTexts() {
			want := bytes.Compare([]byte(a), []byte(b))
			if got := Compare(a, b); got != want {
				t.Fatalf("P6.1: Compare(%q, %q): %d", a, b, got)
			}
		}
	}
}

func TestCompareKnownPairs(t *testing.T) {
	for _, pair := range [][2]string{
		{"", "\x00"}, {"", "a"}, {"a", "b"}, {"a", "z"}, {"a", "aa"}, {"a", "a\x00"},
		{"aa", "b"}, {"B", "a"}, {"10", "9"}, {"abc", "abd"}, {"ab", "abc"},
		{"\x7f", "\x80"}, {"a", "\xff"}, {"\xfe", "\xff"}, {"\xc3\xa9", "\xff"},
		{"\x80", "\xc3\xa9"}, {"\xed\xa0\x80", "\xee"}, {"\xff", "\xff\x00"},
		// Canonical forms are not looked for: these are bytes.
		{"e\u0301", "\u00e9"}, {"\u00c5", "\u212b"},
		{strings.Repeat("a", 5000), strings.Repeat("a", 5000) + "\x00"},
		{strings.Repeat("a", 5000) + "a", strings.Repeat("a", 5000) + "b"},
	} {
		a, b := pair[0], pair[1]
		if Compare(a, b) != -1 || Compare(b, a) != 1 || Compare(a, a) != 0 || Compare(b, b) != 0 {
			t.Errorf("P6.1: Compare of %.20q and %.20q", a, b)
		}
	}
}

// someChars are characters at the ends of each length of UTF-8 and around the
// surrogates, rising.
func someChars() []rune {
	return []rune{
		0, 1, 'A', 'a', 0x7e, 0x7f, 0x80, 0xbf, 0x100, 0x3bf, 0x3c0, 0x7ff, 0x800,
		0xfff, 0x1000, 0x20ac, 0xd7ff, 0xe000, 0xfffd, 0xffff, 0x10000, 0x1f600,
		0x3ffff, 0x40000, 0xfffff, 0x100000, 0x10ffff,
	}
}

func TestCompareByCharacters(t *testing.T) {
	for _, a := range someChars() {
		for _, b := range someChars() {
			for _, c := range []string{"", "x", "\u0301"} {
				l, m := []rune("x"+string(a)+c), []rune("x"+string(b))
				if got, want := Compare(string(l), string(m)), slices.Compare(l, m); got != want {
					t.Errorf("P6.1: Compare of %X and %X: %d", l, m, got)
				}
			}
		}
	}
}

func TestCompareOfForms(t *testing.T) {
	rows := [][]string{{"e\u0301", "\u00e9"}, {"\u00e8", "\u1ed9"}, {"e", "\u00e9"}, {"\u00e9", "f"}, {"\uac00", "\uac01"}, {"\u3042", "\uac00"}}
	for _, row := range rows {
		a, _ := norm.Text(row[0])
		b, _ := norm.Text(row[1])
		if got, want := Compare(a, b), slices.Compare([]rune(a), []rune(b)); got != want {
			t.Errorf("P6.1: Compare(%+q, %+q): %d", a, b, got)
		}
	}
}

func TestHashAtKnownValues(t *testing.T) {
	for s, want := range map[string]uint64{
		"":                   14695981039346656037,
		"a":                  0xaf63dc4c8601ec8c,
		"b":                  0xaf63df4c8601f1a5,
		"fo":                 0x08985907b541d342,
		"foo":                0xdcb27518fed9d577,
		"foobar":             0x85944171f73967e8,
		"chongo was here!\n": 0x46810940eff5f915,
		"\x00":               0xaf63bd4c8601b7df,
		"\xff":               0xaf64724c8602eb6e,
	} {
		if got := Hash(s); got != want {
			t.Errorf("P6.1: Hash(%q): %#x, not %#x", s, got, want)
		}
	}
}

func TestHashOfManyTexts(t *testing.T) {
	l := append(manyTexts(), "\u00e9", "\U0001f600\u20ac", "\u1112\u1161\u11ab", strings.Repeat("\x00", 9))
	for n := range 300 {
		l = append(l, strings.Repeat("\u03b9\u0308x", n))
	}
	for i := range 256 {
		l = append(l, string([]byte{byte(i)}), string([]byte{'k', byte(i), byte(255 - i)}))
	}
	for _, s := range l {
		h := fnv.New64a()
		h.Write([]byte(s))
		if got, want := Hash(s), h.Sum64(); got != want {
			t.Fatalf("P6.1: Hash(%q): %#x, not %#x", s, got, want)
		}
	}
}

// wantBetween fails unless Between tells want of a and b.
func wantBetween(t *testing.T, a, b, want string) {
	t.Helper()
	if got := Between(a, b); got != want {
		t.Errorf("P6.1: Between(%.20q, %.20q): %.20q, not %.20q", a, b, got, want)
	}
}

func TestBetweenDifferingAtOneByte(t *testing.T) {
	wantBetween(t, "abc", "abq", "abd")
	wantBetween(t, "abc", "abe", "abd")
	wantBetween(t, "a", "z", "b")
	wantBetween(t, "abcdef", "abxdef", "abd")
	wantBetween(t, "abcdef", "x", "b")
	wantBetween(t, "a", "cccc", "b")
	wantBetween(t, "a\x01zz", "a\xffz", "a\x02")
	wantBetween(t, "\x00", "\x02", "\x01")
	wantBetween(t, "\x00\x00\x00", "\xff", "\x01")
	wantBetween(t, strings.Repeat("a", 5000)+"b"+strings.Repeat("c", 5000), strings.Repeat("a", 5000)+"e", strings.Repeat("a", 5000)+"c")
}

func TestBetweenOfBytesThatAreNoText(t *testing.T) {
	// The byte that is one more stands alone, not as a character.
	wantBetween(t, "a\x7fb", "a\x81", "a\x80")
	wantBetween(t, "\xc3\xa9", "\xc3\xbf", "\xc3\xaa")
	wantBetween(t, "\xc3\xa9", "\xc9", "\xc4")
	wantBetween(t, "x\u00e9y", "x\u20ac", "x\xc4")
	wantBetween(t, "\xfd\x00", "\xff", "\xfe")
	wantBetween(t, "\x01", "\xff", "\x02")
}

func TestBetweenWhereOneMoreIsNotBelow(t *testing.T) {
	wantBetween(t, "abc", "abd", "abc")
	wantBetween(t, "abczzz", "abdzzz", "abczzz")
	wantBetween(t, "ay", "b", "ay")
	// What would go between behind the byte that differs is not looked for.
	wantBetween(t, "ay", "bz", "ay")
	wantBetween(t, "a\x00\x00\x00", "b\xff", "a\x00\x00\x00")
	wantBetween(t, "\xfe", "\xff", "\xfe")
	wantBetween(t, "\xfe\xff", "\xff\xff", "\xfe\xff")
	wantBetween(t, "\x00", "\x01", "\x00")
	wantBetween(t, "\x7f", "\x80", "\x7f")
	// Nor does a later byte count that differs by more.
	wantBetween(t, "aac", "abz", "aac")
}

func TestBetweenWhereOneBeginsWithTheOther(t *testing.T) {
	wantBetween(t, "abc", "abcd", "abc")
	wantBetween(t, "abc", "abc\x00", "abc")
	wantBetween(t, "abc", "abc\xff", "abc")
	wantBetween(t, "", "a", "")
	wantBetween(t, "", "\x00", "")
	wantBetween(t, "\xff", "\xff\xff", "\xff")
	wantBetween(t, "abcd", "abc", "abcd")
	wantBetween(t, "a", "", "a")
	wantBetween(t, "\x00", "", "\x00")
}

func TestBetweenWhereAIsNotBelow(t *testing.T) {
	wantBetween(t, "", "", "")
	wantBetween(t, "a", "a", "a")
	wantBetween(t, "b", "a", "b")
	wantBetween(t, "z", "a", "z")
	wantBetween(t, "zzzz", "a", "zzzz")
	wantBetween(t, "abd", "abc", "abd")
	wantBetween(t, "\x80", "\x01", "\x80")
	wantBetween(t, "\xff\xff", "\xff", "\xff\xff")
	wantBetween(t, "\xff", "\x00", "\xff")
	wantBetween(t, "\xff", "\xff", "\xff")
}

// between follows the chapter's words from the shortest text on.
func between(a, b string) string {
	for i := range len(a) {
		one := []byte(a[:i+1])
		one[i]++
		alike := i < len(b) && a[:i] == b[:i]
		if a < b && alike && a[i] < b[i] && one[i] != 0 && one[i] < b[i] {
			return string(one)
		}
	}
	return a
}

func TestBetweenOfManyTexts(t *testing.T) {
	for _, a := range manyTexts() {
		for _, b := range manyTexts() {
			got := Between(a, b)
			if got != between(a, b) {
				t.Fatalf("P6.1: Between(%q, %q): %q, not %q", a, b, got, between(a, b))
			}
			if a < b && (got < a || got >= b) || a >= b && got != a || len(got) > len(a) {
				t.Fatalf("P6.1: Between(%q, %q): %q stands wrong", a, b, got)
			}
		}
	}
}

package stream

import (
	"fmt"
	"slices"
	"strings"
	"sync"
	"testing"
	"unicode/utf8"

	"incipit/api"
	"incipit/norm"
	"incipit/ucd"
)

// state is what the chapter says of a stream to which a text was written: all
// that it gave, how many characters it holds, its error.
type state struct {
	out  string
	held int
	err  api.Errno
}

// want tells by the whole of s, not piece by piece, how a stream must stand.
func want(s string) state {
	good, rest := s, ""
	for !utf8.ValidString(good) {
		good = good[:len(good)-1]
	}
	rest = s[len(good):]
	var l []int
	for _, r := range good {
		l = append(l, int(r))
	}
	l = norm.Chars(l)
	last, marks := 0, 0
	for i, c := range l {
		marks++
		if ucd.Class(c) == 0 {
			last, marks = i, 0
		}
		if marks > 30 {
			return state{err: api.ErrTooLarge}
		}
	}
	if rest != "" && !beginnings()[rest] {
		return state{err: api.ErrBadKey}
	}
	return state{out: asText(l[:last]), held: len(l) - last}
}

// beginnings makes, once, all bytes with which a character begins and goes on.
var beginnings = sync.OnceValue(func() map[string]bool {
	m := map[string]bool{}
	for c := range rune(0x110000) {
		if !utf8.ValidRune(c) {
			continue
		}
		s := string(c)
		for i := 1; i < len(s); i++ {
			m[s[:i]] = true
		}
	}
	return m
})

// asText is the text of l, whose numbers are characters.
func asText(l []int) string {
	var b strings.Builder
	for _, c := range l {
		b.WriteRune(rune(c))
	}
	return b.String()
}

// run writes the pieces to a new stream, and fails unless it stands behind
// each of them, and behind Close, as the chapter says.
func run(t *testing.T, pieces ...string) {
	t.Helper()
	x, got, text := New(), state{}, ""
	for i, piece := range pieces {
		b, err := x.Write([]byte(piece))
		text += piece
		got = state{got.out + string(b), x.Held(), err}
		if now := want(text); now.err != api.OK {
			if err != now.err || len(b) != 0 || x.Held() != 0 {
				t.Fatalf("P5.1: %+q: Write %d: %+q, %v, %d held, not error %v", pieces, i, b, err, x.Held(), now.err)
			}
			wantEnded(t, x, now.err)
			return
		} else if got != now {
			t.Fatalf("P5.1: %+q: Write %d: %+v, not %+v", pieces, i, got, now)
		}
	}
	b, err := x.Close()
	whole, ok := norm.Text(text)
	if !ok {
		if err != api.ErrBadKey || len(b) != 0 || x.Held() != 0 {
			t.Fatalf("P5.1: %+q: Close: %+q, %v, %d held", pieces, b, err, x.Held())
		}
		wantEnded(t, x, api.ErrBadKey)
		return
	}
	if got.out+string(b) != whole || err != api.OK || x.Held() != 0 {
		t.Fatalf("P5.1: %+q: %+q, %v, %d held, not %+q", pieces, got.out+string(b), err, x.Held(), whole)
	}
	wantEnded(t, x, api.ErrClosed)
}

// wantEnded fails unless x answers nothing but err, however often.
func wantEnded(t *testing.T, x *Stream, err api.Errno) {
	t.Helper()
	for range 2 {
		for _, s := range []string{"", "a", "\u0301", "\xc3", "\xff", strings.Repeat("\u0301", 31)} {
			if b, got := x.Write([]byte(s)); got != err || len(b) != 0 || x.Held() != 0 {
				t.Fatalf("P5.1: Write(%+q) behind the end: %+q, %v, %d held, not error %v", s, b, got, x.Held(), err)
			}
		}
		if b, got := x.Write(nil); got != err || len(b) != 0 || x.Held() != 0 {
			t.Fatalf("P5.1: Write(nil) behind the end: %+q, %v, %d held, not error %v", b, got, x.Held(), err)
		}
		if b, got := x.Close(); got != err || len(b) != 0 || x.Held() != 0 {
			t.Fatalf("P5.1: Close behind the end: %+q, %v, %d held, not error %v", b, got, x.Held(), err)
		}
	}
}

// runCuts runs s whole, cut at each place, at each two, and in equal pieces.
func runCuts(t *testing.T, s string) {
	t.Helper()
	run(t, s)
	for i := range len(s) + 1 {
		run(t, s[:i], s[i:])
		for j := i; j <= len(s); j++ {
			run(t, s[:i], s[i:j], s[j:])
		}
	}
	for n := 1; n < len(s); n++ {
		run(t, equal(s, n)...)
	}
}

// equal cuts s into pieces of n bytes, of which the last one may be shorter.
func equal(s string, n int) []string {
	var l []string
	for piece := range slices.Chunk([]byte(s), n) {
		l = append(l, string(piece))
	}
	return l
}

// uneven cuts s into pieces of no bytes to 12, one length behind the other as
// a rule without a short period gives them.
func uneven(s string) []string {
	var l []string
	for n := uint32(1); s != ""; n = n*1664525 + 1013904223 {
		size := min(len(s), int(n>>16%13))
		l = append(l, s[:size])
		s = s[size:]
	}
	return l
}

// step is a piece, what is given for it, and how many are held behind it.
type step struct {
	in, out string
	held    int
}

// wantSteps fails unless a new stream answers each step, and at the end rest.
func wantSteps(t *testing.T, rest string, steps ...step) {
	t.Helper()
	x := New()
	if x.Held() != 0 {
		t.Errorf("P5.1: a new stream holds %d", x.Held())
	}
	for i, s := range steps {
		b, err := x.Write([]byte(s.in))
		if string(b) != s.out || err != api.OK || x.Held() != s.held {
			t.Errorf("P5.1: %d: Write(%+q): %+q, %v, %d held, not %+q, %d", i, s.in, b, err, x.Held(), s.out, s.held)
		}
	}
	if b, err := x.Close(); string(b) != rest || err != api.OK || x.Held() != 0 {
		t.Errorf("P5.1: Close: %+q, %v, %d held, not %+q", b, err, x.Held(), rest)
	}
}

// wantErrors fails unless a new stream takes all pieces but the last, and
// answers err from that one on.
func wantErrors(t *testing.T, err api.Errno, pieces ...string) {
	t.Helper()
	x := New()
	for i, piece := range pieces {
		want := api.OK
		if i == len(pieces)-1 {
			want = err
		}
		if b, got := x.Write([]byte(piece)); got != want || got != api.OK && len(b) != 0 {
			t.Errorf("P5.1: %+q: Write %d: %+q, %v, not error %v", pieces, i, b, got, want)
		}
	}
	wantEnded(t, x, err)
}

func TestSteps(t *testing.T) {
	wantSteps(t, "")
	wantSteps(t, "", step{"", "", 0}, step{"", "", 0})
	wantSteps(t, "c", step{"a", "", 1}, step{"b", "a", 1}, step{"", "", 1}, step{"c", "b", 1})
	wantSteps(t, "c", step{"abc", "ab", 1})
	wantSteps(t, "a\u0323\u0301", step{"a\u0301", "", 2}, step{"\u0323", "", 3})
	wantSteps(t, "b\u0323\u0301", step{"a\u0345\u0301b", "a\u0301\u0345", 1}, step{"\u0301\u0323", "", 3})
	// Equal classes stay as they stood, in two pieces, too.
	wantSteps(t, "a\u0323\u0301\u0300", step{"\u00e1", "", 2}, step{"\u0300\u0323", "", 4})
	wantSteps(t, "e\u0301", step{"\u00e9\u00e9", "e\u0301", 2})
	wantSteps(t, "A\u0307\u0304\u0345", step{"\u01e0", "", 3}, step{"\u0345", "", 4})
}

func TestSyllables(t *testing.T) {
	// All parts of a syllable are of class 0: the last one alone is held.
	wantSteps(t, "\u11ab", step{"\ud55c", "\u1112\u1161", 1})
	wantSteps(t, "\u1161", step{"\uac00", "\u1100", 1})
	wantSteps(t, "\u1173", step{"a\u0301\uac00", "a\u0301\u1100", 1}, step{"\u0323\u0301", "", 3}, step{"\uadf8", "\u1161\u0323\u0301\u1100", 1})
	wantSteps(t, "\u11a8", step{"\uac00", "\u1100", 1}, step{"\u11a8", "\u1161", 1})
}

func TestCutCharactersAreNotHeld(t *testing.T) {
	wantSteps(t, "e\u0301", step{"a\u0301", "", 2}, step{"\xc3", "", 2}, step{"", "", 2}, step{"\xa9", "a\u0301", 2})
	wantSteps(t, "\u20ac", step{"\xe2", "", 0}, step{"\x82", "", 0}, step{"\xac", "", 1})
	wantSteps(t, "\U0001f600", step{"ab\xf0", "a", 1}, step{"\x9f", "", 1}, step{"\x98", "", 1}, step{"\x80", "b", 1})
	wantSteps(t, "a\u0323\u0301", step{"a\u0301\xcc", "", 2}, step{"\xa3", "", 3})
	wantSteps(t, "\U0001d158\U0001d165\U0001d16e", step{"\u00e9\xf0\x9d\x85", "", 2}, step{"\xa0", "e\u0301", 3})
	wantSteps(t, "\u11ab", step{"\xed\x95", "", 0}, step{"\x9c", "\u1112\u1161", 1})
}

func TestMarksAtTheBeginning(t *testing.T) {
	wantSteps(t, "\u0323\u0301", step{"\u0301", "", 1}, step{"\u0323", "", 2})
	wantSteps(t, "a\u0301", step{"\u0301\u0323", "", 2}, step{"a", "\u0323\u0301", 1}, step{"\u0301", "", 2})
	wantSteps(t, "\u0308\u0301", step{"\u0344", "", 2})
	wantSteps(t, "a", step{"\u0345", "", 1}, step{"\u0344\u0334", "", 4}, step{"a", "\u0334\u0308\u0301\u0345", 1})
	wantSteps(t, "a", step{"\u0345\u0344\u0334a", "\u0334\u0308\u0301\u0345", 1})
	thirty := strings.Repeat("\u0301", 30)
	wantSteps(t, thirty, step{thirty, "", 30})
	wantSteps(t, "a", step{thirty, "", 30}, step{"a", thirty, 1})
	wantErrors(t, api.ErrTooLarge, thirty, "\u0301")
}

func TestThirtyMarks(t *testing.T) {
	for _, mark := range []string{"\u0301", "\u0345", "\u0334", "\u3099", "\U0001d165"} {
		thirty := strings.Repeat(mark, 30)
		wantSteps(t, "a"+thirty, step{"a" + thirty, "", 31})
		wantSteps(t, "a"+thirty, step{"a", "", 1}, step{thirty, "", 31})
		wantSteps(t, "b"+thirty, step{"a" + thirty + "b" + thirty, "a" + thirty, 31})
		wantSteps(t, "a", step{thirty, "", 30}, step{"a" + thirty, thirty, 31}, step{"a", "a" + thirty, 1})
		wantErrors(t, api.ErrTooLarge, thirty+mark)
		wantErrors(t, api.ErrTooLarge, "a"+thirty+mark)
		wantErrors(t, api.ErrTooLarge, "a"+thirty, mark)
		wantErrors(t, api.ErrTooLarge, "a", thirty, mark)
		wantErrors(t, api.ErrTooLarge, "a"+thirty+"b", thirty, mark)
		wantErrors(t, api.ErrTooLarge, "abc"+thirty+mark+"def")
		wantErrors(t, api.ErrTooLarge, "a"+strings.Repeat(mark, 1000))
	}
}

func TestThirtyFirstMarkIsWhole(t *testing.T) {
	thirty := strings.Repeat("\u0301", 30)
	// Of what begins with CD some are marks and some are not; all that begin
	// with CC are, but it may still be that none comes of it.
	wantErrors(t, api.ErrTooLarge, "a"+thirty, "\xcd", "\x81")
	wantSteps(t, "\u034a", step{"a" + thirty, "", 31}, step{"\xcd", "", 31}, step{"\x8a", "a" + thirty, 1})
	wantErrors(t, api.ErrTooLarge, "a"+thirty, "\xcc", "\x81")
	wantErrors(t, api.ErrBadKey, "a"+thirty, "\xcc", "a")
}

func TestThirtyMarksOfFewerCharacters(t *testing.T) {
	two, three := "\u0344", "\u1f82"
	wantSteps(t, strings.Repeat("\u0308\u0301", 15), step{strings.Repeat(two, 15), "", 30})
	wantSteps(t, "a"+strings.Repeat("\u0308\u0301", 15), step{"a" + strings.Repeat(two, 15), "", 31})
	wantErrors(t, api.ErrTooLarge, strings.Repeat(two, 15), "\u0301")
	wantErrors(t, api.ErrTooLarge, strings.Repeat(two, 16))
	wantErrors(t, api.ErrTooLarge, "a"+strings.Repeat(two, 15), two)
	// The second one of the last two is the 31st.
	wantErrors(t, api.ErrTooLarge, "a"+strings.Repeat("\u0301", 29), two)
	wantErrors(t, api.ErrTooLarge, "\u0301"+strings.Repeat(two, 15))
	wantSteps(t, "a"+strings.Repeat("\u0323", 28)+"\u0308\u0301", step{"a" + strings.Repeat("\u0323", 28), "", 29}, step{two, "", 31})
	// Of these the first part is of class 0, and only the others count.
	wantSteps(t, "\u03b1"+strings.Repeat("\u0323", 27)+"\u0313\u0300\u0345", step{three, "", 4}, step{strings.Repeat("\u0323", 27), "", 31})
	wantErrors(t, api.ErrTooLarge, three+strings.Repeat("\u0323", 27), "\u0323")
	wantErrors(t, api.ErrTooLarge, three+strings.Repeat("\u0323", 28))
	wantSteps(t, "e\u0301", step{strings.Repeat("\u0301", 30) + "\u00e9", strings.Repeat("\u0301", 30), 2})
	wantSteps(t, "\u1161", step{strings.Repeat("\u0301", 30), "", 30}, step{"\uac00", strings.Repeat("\u0301", 30) + "\u1100", 1})
}

func TestManyMarksApart(t *testing.T) {
	twenty := strings.Repeat("\u0323\u0301", 10)
	sorted := strings.Repeat("\u0323", 10) + strings.Repeat("\u0301", 10)
	var steps []step
	for i := range 100 {
		before := ""
		if i > 0 {
			before = "a" + sorted
		}
		steps = append(steps, step{"a", before, 1}, step{twenty, "", 21})
	}
	wantSteps(t, "a"+sorted, steps...)
}

// noBeginnings are bytes that begin no character, the last of which only
// tells so.
func noBeginnings() []string {
	return []string{
		"\x80", "\xbf", "\xc0", "\xc1", "\xf5", "\xf7", "\xf8", "\xfc", "\xfe", "\xff",
		"\xc2a", "\xc2\xc2", "\xc3\xff", "\xdf\x7f", "\xdf\xc0",
		"\xe0\x80", "\xe0\x9f", "\xe1a", "\xe1\xc0", "\xed\xa0", "\xed\xbf", "\xe2\x82(", "\xe2\x82\xe2", "\xef\xbf\xc0",
		"\xf0\x80", "\xf0\x8f", "\xf0a", "\xf0\xf0", "\xf4\x90", "\xf4\xbf",
		"\xf0\x9f\x98\xf0", "\xf0\x9f(", "\xf0\x9f\x98a", "\xf4\x8f\xbf\xc0",
	}
}

func TestNoCharacters(t *testing.T) {
	for _, bad := range noBeginnings() {
		last := len(bad) - 1
		wantErrors(t, api.ErrBadKey, bad)
		wantErrors(t, api.ErrBadKey, bad+"a")
		wantErrors(t, api.ErrBadKey, bad+"\x80\x80\x80\x80")
		wantErrors(t, api.ErrBadKey, "a\u0301"+bad)
		wantErrors(t, api.ErrBadKey, "a\u0301", bad)
		wantErrors(t, api.ErrBadKey, "a\u0301", bad+"abc\u0301")
		wantErrors(t, api.ErrBadKey, append(equal(bad[:last], 1), bad[last:])...)
		wantErrors(t, api.ErrBadKey, append(equal("\u00e9"+bad[:last], 1), bad[last:])...)
	}
}

func TestCutShortAtClose(t *testing.T) {
	for cut := range beginnings() {
		for _, pieces := range [][]string{{cut}, {"a\u0301", cut}, {"a\u0301" + cut}, {cut, ""}, equal("\u00e9"+cut, 1)} {
			x := New()
			for _, piece := range pieces {
				if _, err := x.Write([]byte(piece)); err != api.OK {
					t.Errorf("P5.1: %+q: Write(%+q): %v", pieces, piece, err)
				}
			}
			if b, err := x.Close(); err != api.ErrBadKey || len(b) != 0 || x.Held() != 0 {
				t.Errorf("P5.1: %+q: Close: %+q, %v, %d held", pieces, b, err, x.Held())
			}
			wantEnded(t, x, api.ErrBadKey)
		}
	}
}

func TestFirstFaultCounts(t *testing.T) {
	thirty := strings.Repeat("\u0301", 30)
	wantErrors(t, api.ErrTooLarge, thirty+"\u0301\xff")
	wantErrors(t, api.ErrTooLarge, "a"+thirty, "\u0301\xff")
	wantErrors(t, api.ErrTooLarge, strings.Repeat("\u0344", 16)+"\xff")
	wantErrors(t, api.ErrTooLarge, thirty+"\u0301\xc3")
	wantErrors(t, api.ErrBadKey, thirty+"\xff\u0301")
	wantErrors(t, api.ErrBadKey, "\xff"+thirty+"\u0301")
	wantErrors(t, api.ErrBadKey, thirty, "\xff\u0301")
	wantErrors(t, api.ErrBadKey, thirty+"\xcc", "\u0301")
}

func TestCutAtEveryPlace(t *testing.T) {
	for _, s := range []string{
		"", "a", "abc", "\x00\x7f", "\u00e9\u0323\u00e9", "a\u0301\u0323b\u0345\u0301", "\ud55c\uae00a",
		"\u0301\u0323x\u0301", "\u0344\u0323\u01e0\u0323", "\U0001d160\u0344", "\u20ac\U0001f600\u304b\u0301\u3099",
		"\u1f82\u0323\uac01\u0301", "\ufeff\ufffd\U0010ffff\u0301", "\ud7ff\ue000\u0800\u07ff\U00010000",
		"ab\xff\u0301", "\u0301\xe2\x82", "a\xed\xa0\x80b", "\u00e9\xf4\x90\x80\x80", "\xf0\x90\x80", "a\xe0\x9f\xbf",
	} {
		runCuts(t, s)
	}
}

func TestManyMarksCutAtEveryPlace(t *testing.T) {
	for _, s := range []string{
		strings.Repeat("\u0301\u0323", 15) + "a",
		"\u00e9" + strings.Repeat("\u0344", 14) + "\u0323" + "b",
		"a" + strings.Repeat("\u0344", 15) + "\u0323",
		strings.Repeat("\u0301", 31),
		strings.Repeat("\U0001d165", 30) + "\xf5",
	} {
		for i := range len(s) + 1 {
			run(t, s[:i], s[i:])
			run(t, append(equal(s[:i], 3), equal(s[i:], 1)...)...)
		}
	}
}

func TestEveryCharacter(t *testing.T) {
	for c := range 0x110000 {
		if !utf8.ValidRune(rune(c)) {
			continue
		}
		s := string(rune(c))
		x := New()
		var out []byte
		for i := range len(s) {
			b, err := x.Write([]byte(s[i : i+1]))
			if out = append(out, b...); err != api.OK || i < len(s)-1 && x.Held() != 0 {
				t.Fatalf("P5.1: %X: Write %d: %v, %d held", c, i, err, x.Held())
			}
		}
		whole := want(s)
		if string(out) != whole.out || x.Held() != whole.held {
			t.Fatalf("P5.1: %X: %+q, %d held, not %+v", c, out, x.Held(), whole)
		}
		b, err := x.Close()
		if text, _ := norm.Text(s); string(out)+string(b) != text || err != api.OK {
			t.Fatalf("P5.1: %X: %+q, %v, not %+q", c, string(out)+string(b), err, text)
		}
	}
}

// chosenBytes are those at which what may begin a character changes.
func chosenBytes() []byte {
	return []byte("\x00a\x7f\x80\x8f\x90\x9f\xa0\xbf\xc0\xc1\xc2\xdf\xe0\xe1\xec\xed\xee\xef\xf0\xf1\xf3\xf4\xf5\xf8\xff")
}

func TestChosenBytes(t *testing.T) {
	for _, a := range chosenBytes() {
		for _, b := range chosenBytes() {
			for _, c := range chosenBytes() {
				for _, d := range chosenBytes() {
					s := string([]byte{a, b, c, d})
					run(t, s[:1], s[1:2], s[2:3], s[3:])
				}
			}
		}
	}
}

func TestAllPairsOfBytes(t *testing.T) {
	for a := range 256 {
		for b := range 256 {
			s := string([]byte{byte(a), byte(b)})
			run(t, s)
			run(t, s[:1], s[1:])
		}
	}
}

func TestLongTexts(t *testing.T) {
	alphabet := []string{"a", "\u0301", "\u0323", "\u00e9", "\ud55c", "\u0344", "\U0001d160", "\u1f82", "\u20ac", "\u0334"}
	var text strings.Builder
	for n := uint32(7); text.Len() < 50000; n = n*1664525 + 1013904223 {
		text.WriteString(alphabet[n>>16%uint32(len(alphabet))])
	}
	whole, _ := norm.Text(text.String())
	for n := range 20 {
		pieces := uneven(text.String())
		if n > 0 {
			pieces = equal(text.String(), n*n*n)
		}
		x := New()
		got := ""
		for _, piece := range pieces {
			b, err := x.Write([]byte(piece))
			if got += string(b); err != api.OK {
				t.Fatalf("P5.1: a long text: %v", err)
			}
		}
		b, err := x.Close()
		if got += string(b); got != whole || err != api.OK {
			t.Errorf("P5.1: a long text comes out otherwise in pieces, cut %d", n)
		}
	}
}

func TestNil(t *testing.T) {
	var none *Stream
	wantEnded(t, none, api.ErrClosed)
	if none.Held() != 0 {
		t.Errorf("P5.1: nil holds %d", none.Held())
	}
}

func TestNeverWritten(t *testing.T) {
	x := New()
	if b, err := x.Close(); len(b) != 0 || err != api.OK || x.Held() != 0 {
		t.Errorf("P5.1: Close of nothing: %+q, %v, %d held", b, err, x.Held())
	}
	wantEnded(t, x, api.ErrClosed)
	// One that New did not make must not panic either.
	x = new(Stream)
	if _, err := x.Write([]byte("a\u0301")); err != api.OK || x.Held() != 2 {
		t.Errorf("P0.1: a zero Stream: %v, %d held", err, x.Held())
	}
}

func TestNilPieces(t *testing.T) {
	x := New()
	for range 3 {
		if b, err := x.Write(nil); len(b) != 0 || err != api.OK || x.Held() != 0 {
			t.Errorf("P0.4: Write(nil): %+q, %v, %d held", b, err, x.Held())
		}
	}
	run(t, "", "\u00e9", "", "\xcc", "", "\xa3", "")
}

func TestStreamsStandApart(t *testing.T) {
	x, y := New(), New()
	x.Write([]byte("a\u0301\xcc"))
	y.Write([]byte("\xff"))
	z := New()
	z.Write([]byte("b"))
	if _, err := x.Write([]byte("\xa3")); err != api.OK || x.Held() != 3 || y.Held() != 0 || z.Held() != 1 {
		t.Errorf("P0.5: %v, %d, %d, %d", err, x.Held(), y.Held(), z.Held())
	}
	if b, err := x.Close(); string(b) != "a\u0323\u0301" || err != api.OK {
		t.Errorf("P0.5: %+q, %v", b, err)
	}
	if b, err := z.Close(); string(b) != "b" || err != api.OK {
		t.Errorf("P0.5: %+q, %v", b, err)
	}
}

func TestArgumentsStay(t *testing.T) {
	room := []byte("a\u0301bc\xc3\xa9\u0323xyz")
	before := slices.Clone(room)
	x := New()
	b, err := x.Write(room[:6])
	for i := range b[:cap(b)] {
		b[:cap(b)][i] = '!'
	}
	if err != api.OK || !slices.Equal(room, before) {
		t.Errorf("P0.3: Write changed %+q to %+q, %v", before, room, err)
	}
	// What is written into the list later does not reach the stream.
	for i := range room {
		room[i] = '?'
	}
	b, err = x.Write([]byte("\xa9"))
	if string(b) != "c" || err != api.OK {
		t.Errorf("P0.3: Write keeps what it was given: %+q, %v", b, err)
	}
	if b, err = x.Close(); string(b) != "e\u0301" || err != api.OK {
		t.Errorf("P0.3: Write keeps what it was given: %+q, %v", b, err)
	}
}

func TestAnswersAreNewMemory(t *testing.T) {
	var all []string
	for range 2 {
		x := New()
		for _, s := range []string{"a", "b\u0301\u0323", "\ud55c", "cd"} {
			b, _ := x.Write([]byte(s))
			all = append(all, string(b))
			for i := range b[:cap(b)] {
				b[:cap(b)][i] = '!'
			}
		}
		b, _ := x.Close()
		all = append(all, string(b))
		for i := range b[:cap(b)] {
			b[:cap(b)][i] = '!'
		}
	}
	if fmt.Sprintf("%+q", all[:5]) != fmt.Sprintf("%+q", all[5:]) || all[1] != "a" || all[2] != "b\u0323\u0301\u1112\u1161" || all[4] != "d" {
		t.Errorf("P0.3: %+q", all)
	}
}

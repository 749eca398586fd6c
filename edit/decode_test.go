package edit

import (
	"fmt"
	"math"
	"math/rand/v2"
	"strings"
	"testing"

	"incipit/api"
)

// wantCorrupt fails unless b is decoded to nothing.
func wantCorrupt(t *testing.T, what, b string) {
	t.Helper()
	if e, err := Decode([]byte(b)); err != api.ErrCorrupt || !isSame(e, api.Edit{}) {
		t.Errorf("P19.1: %s: Decode of %.60q: %s, %v", what, b, short(e), err)
	}
}

// wantByWords fails unless b is decoded as the chapter's words have it: to the
// edit whose bytes it is, if there is one.
func wantByWords(t *testing.T, what, b string) {
	t.Helper()
	want, wantErr := decodeByWords(b)
	e, err := Decode([]byte(b))
	if err != wantErr || !isSame(e, want) {
		t.Errorf("P19.1: %s: Decode of %.60q: %s, %v, not %s, %v", what, b, short(e), err, short(want), wantErr)
	}
	if err != api.OK {
		return
	}
	if again, err := Encode(e); err != api.OK || string(again) != b {
		t.Errorf("P19.1: %s: Decode takes %.60q, of which Encode makes %.60q, %v", what, b, again, err)
	}
}

// smallEdits are edits of few bytes, of which each byte may be changed in all
// ways.
func smallEdits() []api.Edit {
	return []api.Edit{
		{}, some(), {Next: 1, Log: 1, Last: 1}, {Next: mostNum, Log: mostNum, Last: mostNum - 1},
		{Adds: []api.File{{Num: 1}}}, {Dels: []int64{1, 1, 1}},
		{Adds: []api.File{{Num: 1 << 50, Level: 4, Size: 1 << 24, Small: "\x80", Great: "\xff\x01\x02"}}, Dels: []int64{1 << 50, 3}},
		{Next: 127, Log: 128, Adds: []api.File{{Num: 1, Small: "a", Great: "a"}, {Num: 2, Level: 1, Size: 1, Small: "a", Great: "b"}}, Dels: []int64{127}},
	}
}

// greatEdits are edits of more bytes.
func greatEdits() []api.Edit {
	return []api.Edit{
		{Next: 9, Adds: files(30), Dels: nums(40)},
		{Adds: files(200)}, {Dels: nums(200)},
		{Log: 5, Adds: []api.File{{Num: 1, Small: xs(130), Great: xs(200)}}, Dels: nums(3)},
	}
}

func TestDecodeOfNoBytes(t *testing.T) {
	for _, b := range [][]byte{nil, {}, make([]byte, 0, 20), []byte("\x00\x00\x00\x00\x00")[:0]} {
		if e, err := Decode(b); err != api.ErrCorrupt || !isSame(e, api.Edit{}) {
			t.Errorf("P19.1: Decode of no bytes: %s, %v", short(e), err)
		}
	}
}

func TestDecodeOfFewBytes(t *testing.T) {
	for n := range 40 {
		for _, c := range []string{"\x00", "\x01", "\x02", "\x7f", "\x80", "\xff"} {
			wantByWords(t, "few bytes", strings.Repeat(c, n))
		}
	}
	for i := range 1 << 16 {
		wantCorrupt(t, "two bytes", string([]byte{byte(i), byte(i >> 8)}))
	}
}

func TestDecodeOfEachFront(t *testing.T) {
	for _, e := range append(smallEdits(), greatEdits()...) {
		b := laid(e)
		for n := range b {
			wantCorrupt(t, "a front", b[:n])
			// What stands in the spare room is not looked at.
			if x, err := Decode([]byte(b)[:n]); err != api.ErrCorrupt || !isSame(x, api.Edit{}) {
				t.Errorf("P19.1: Decode of %d bytes with spare room: %s, %v", n, short(x), err)
			}
		}
	}
	b := laid(api.Edit{Next: 1, Adds: []api.File{{Num: 1, Small: xs(13000), Great: xs(13000)}}, Dels: []int64{1}})
	for n := 0; n < len(b); n += 1 + n/100 {
		wantCorrupt(t, "a front", b[:n])
	}
	wantCorrupt(t, "all but the last byte", b[:len(b)-1])
}

func TestDecodeWithBytesBehind(t *testing.T) {
	for _, e := range append(smallEdits(), greatEdits()...) {
		b := laid(e)
		for c := range 256 {
			wantCorrupt(t, "a byte behind", b+string([]byte{byte(c)}))
		}
		wantCorrupt(t, "a Del behind", b+number(1))
		wantCorrupt(t, "an edit behind", b+laid(api.Edit{}))
		wantCorrupt(t, "twice", b+b)
		wantCorrupt(t, "many zeros behind", b+strings.Repeat("\x00", 3000))
		wantCorrupt(t, "many bytes behind", b+strings.Repeat("\xff", 3000))
	}
}

func TestDecodeWithEachByteChanged(t *testing.T) {
	for _, e := range smallEdits() {
		b := laid(e)
		for i := range b {
			for change := 1; change < 256; change++ {
				c := []byte(b)
				c[i] ^= byte(change)
				wantByWords(t, fmt.Sprintf("byte %d changed by %d", i, change), string(c))
			}
		}
	}
}

func TestDecodeOfMuchWithEachByteChanged(t *testing.T) {
	for _, e := range greatEdits() {
		b := laid(e)
		for i := range b {
			for _, change := range []byte{1, 2, 0x40, 0x7f, 0x80, 0xff} {
				c := []byte(b)
				c[i] ^= change
				wantByWords(t, fmt.Sprintf("byte %d changed by %d", i, change), string(c))
			}
		}
	}
}

func TestDecodeWithBytesPutInAndLeftOut(t *testing.T) {
	for _, e := range smallEdits() {
		b := laid(e)
		for i := range b {
			wantByWords(t, "a byte left out", b[:i]+b[i+1:])
			for _, c := range []byte{0, 1, 2, 'a', 0x7f, 0x80, 0x81, 0xff} {
				wantByWords(t, "a byte put in", b[:i]+string([]byte{c})+b[i:])
			}
			for j := i; j <= len(b); j++ {
				wantByWords(t, "bytes left out", b[:i]+b[j:])
				wantByWords(t, "bytes twice", b[:j]+b[i:])
			}
		}
	}
}

func TestDecodeOfWhatMayNotBe(t *testing.T) {
	for _, x := range refused() {
		wantCorrupt(t, x.what, laid(x.e))
	}
}

// greatCounts are the bytes of numbers greater than n, up to and beyond all
// numbers.
func greatCounts(n int64) []string {
	var l []string
	for _, great := range []int64{n + 1, n + 2, 127, 128, 200, 201, 256 + n, 1<<16 + n, 1<<32 + n, 1<<50 + n, 1<<62 + n, math.MaxInt64, math.MinInt64, math.MinInt64 + n, -1} {
		if uint64(great) > uint64(n) {
			l = append(l, number(great))
		}
	}
	return append(l, strings.Repeat("\xff", 9)+"\x02", strings.Repeat("\x80", 9)+"\x02", strings.Repeat("\xff", 20), strings.Repeat("\xff", 5))
}

// laidFiles makes the bytes of n files.
func laidFiles(n int) string {
	s := ""
	for _, f := range files(n) {
		s += laidFile(f)
	}
	return s
}

func TestDecodeOfCountsGreaterThanWhatFollows(t *testing.T) {
	f := laidFile(files(1)[0])
	for _, n := range greatCounts(1) {
		wantCorrupt(t, "Adds, with one", numbers(1, 1, 1)+n+f+numbers(0))
		wantCorrupt(t, "Adds, with a file and a Del", numbers(1, 1, 1)+n+f+numbers(1, 1))
		wantCorrupt(t, "Dels, with one", numbers(1, 1, 1, 0)+n+numbers(1))
	}
	for _, n := range greatCounts(0) {
		wantCorrupt(t, "Adds, with none", numbers(1, 1, 1)+n+numbers(0))
		wantCorrupt(t, "Adds, at the end", numbers(1, 1, 1)+n)
		wantCorrupt(t, "Dels, with none", numbers(1, 1, 1, 0)+n)
		wantCorrupt(t, "Dels behind files", numbers(1, 1, 1, 2)+f+f+n)
	}
	for n := range 201 {
		wantCorrupt(t, "too many Adds told", numbers(0, 0, 0, int64(n)+1)+laidFiles(n)+number(int64(n))+numbers(nums(n)...))
		wantCorrupt(t, "too many Dels told", numbers(0, 0, 0, 0, int64(n)+1)+numbers(nums(n)...))
	}
}

func TestDecodeOfCountsLessThanWhatFollows(t *testing.T) {
	for n := 1; n <= 200; n += 13 {
		wantByWords(t, "too few Adds told", numbers(0, 0, 0, int64(n)-1)+laidFiles(n)+number(0))
		wantCorrupt(t, "too few Dels told", numbers(0, 0, 0, 0, int64(n)-1)+numbers(nums(n)...))
	}
}

func TestDecodeOfLengthsGreaterThanWhatFollows(t *testing.T) {
	front := numbers(9, 0, 0, 1, 5, 1, 9)
	for _, n := range greatCounts(3) {
		wantCorrupt(t, "Great's length", front+text("a")+n+"b"+numbers(1, 7))
		wantCorrupt(t, "Great's length, nothing behind", front+text("a")+n)
	}
	for _, n := range greatCounts(6) {
		wantCorrupt(t, "Small's length", front+n+"a"+text("b")+numbers(1, 7))
		wantCorrupt(t, "Small's length, nothing behind", front+n)
	}
	wantEdit(t, front+text("a")+text("b")+numbers(1, 7), api.Edit{Next: 9, Adds: []api.File{{Num: 5, Level: 1, Size: 9, Small: "a", Great: "b"}}, Dels: []int64{7}})
}

// laidAs makes the bytes of an edit with a file and a Del, of whose numbers (the
// three, how many Adds, the file's three, the texts' lengths, how many Dels, the
// Del) the one at place at is put as n.
func laidAs(at int, n string) string {
	l := []string{"\x07", "\x02", "\x03", "\x01", "\x05", "\x04", "\x06", "\x01", "\x01", "\x01", "\x08"}
	l[at] = n
	l[7] += "a"
	l[8] += "b"
	return strings.Join(l, "")
}

// places is how many numbers laidAs lays.
const places = 11

func TestDecodeOfNumbersOfMoreBytesThanNeeded(t *testing.T) {
	few := "\x07\x02\x03\x01\x05\x04\x06\x01\x01\x01\x08"
	for at := range places {
		wantEdit(t, laidAs(at, few[at:at+1]), api.Edit{Next: 7, Log: 2, Last: 3, Adds: []api.File{{Num: 5, Level: 4, Size: 6, Small: "a", Great: "b"}}, Dels: []int64{8}})
		for size := 1; size < 12; size++ {
			long := string([]byte{few[at] | 0x80}) + strings.Repeat("\x80", size-1) + "\x00"
			wantCorrupt(t, fmt.Sprintf("number %d of %d bytes", at, size+1), laidAs(at, long))
		}
	}
	for n := range 5 {
		for size := 1; size < 12; size++ {
			long := strings.Repeat("\x80", size) + "\x00"
			wantCorrupt(t, "zero by more bytes", strings.Repeat("\x00", n)+long+strings.Repeat("\x00", 4-n))
		}
	}
}

func TestDecodeOfNumbersBeyondWhatMayBe(t *testing.T) {
	for at := range places {
		for _, n := range []string{
			number(1<<50 + 1), number(1 << 51), number(1<<62 + 7), number(math.MaxInt64), number(math.MinInt64), number(math.MinInt64 + 1), number(math.MinInt64 + 7), number(-1), number(-1 << 50),
			// Beyond 2^64.
			strings.Repeat("\x80", 9) + "\x02", "\x81" + strings.Repeat("\x80", 8) + "\x02", strings.Repeat("\xff", 9) + "\x7f", strings.Repeat("\x80", 9) + "\x82\x01",
			strings.Repeat("\x80", 10) + "\x01", "\x87" + strings.Repeat("\x80", 9) + "\x01", strings.Repeat("\xff", 30) + "\x01", strings.Repeat("\x80", 3000),
		} {
			wantCorrupt(t, fmt.Sprint("number ", at), laidAs(at, n))
		}
		for _, n := range []int64{0, 1, 4, 5, 127, 128, 200, 201, 13000, 13001, 1 << 24, 1<<24 + 1, 1 << 50} {
			wantByWords(t, fmt.Sprintf("number %d as %d", at, n), laidAs(at, number(n)))
		}
	}
}

func TestDecodeOfAnyBytes(t *testing.T) {
	good := 0
	r := rand.New(rand.NewPCG(19, 2))
	for range 20000 {
		b := make([]byte, r.IntN(40))
		for i := range b {
			b[i] = byte(r.Uint32())
		}
		wantByWords(t, "any bytes", string(b))
		// Of small numbers some are edits.
		for i := range b {
			b[i] = "\x00\x00\x01\x01\x02\x03ab\x80\x7f"[r.IntN(10)]
		}
		wantByWords(t, "small bytes", string(b))
		if _, err := decodeByWords(string(b)); err == api.OK {
			good++
		}
	}
	if good == 0 {
		t.Error("P19.1: none of the bytes was an edit")
	}
}

func TestDecodeOfAnyEditsWithChanges(t *testing.T) {
	r := rand.New(rand.NewPCG(19, 3))
	for range 5000 {
		b := []byte(laid(anyEdit(r)))
		for range 1 + r.IntN(3) {
			b[r.IntN(len(b))] = byte(r.Uint32() >> r.IntN(8))
		}
		wantByWords(t, "bytes changed", string(b))
		at := r.IntN(len(b))
		wantByWords(t, "bytes moved", string(b[at:])+string(b[:at]))
	}
}

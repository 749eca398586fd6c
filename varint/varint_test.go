package varint

import (
	"bytes"
	"encoding/binary"
	"math"
	"slices"
	"strings"
	"testing"
)

// edge is a number beside an edge between one length and the next, and its
// bytes, written out.
type edge struct {
	n uint64
	b string
}

// someEdges are the numbers on both sides of each edge, rising, from none to
// the greatest of 64 bits.
func someEdges() []edge {
	return []edge{
		{0, "\x00"},
		{1, "\x01"},
		{1<<7 - 1, "\x7f"},
		{1 << 7, "\x80\x01"},
		{1<<7 + 1, "\x81\x01"},
		{1<<14 - 1, "\xff\x7f"},
		{1 << 14, "\x80\x80\x01"},
		{1<<21 - 1, "\xff\xff\x7f"},
		{1 << 21, "\x80\x80\x80\x01"},
		{1<<28 - 1, "\xff\xff\xff\x7f"},
		{1 << 28, "\x80\x80\x80\x80\x01"},
		{1<<35 - 1, "\xff\xff\xff\xff\x7f"},
		{1 << 35, "\x80\x80\x80\x80\x80\x01"},
		{1<<42 - 1, "\xff\xff\xff\xff\xff\x7f"},
		{1 << 42, "\x80\x80\x80\x80\x80\x80\x01"},
		{1<<49 - 1, "\xff\xff\xff\xff\xff\xff\x7f"},
		{1 << 49, "\x80\x80\x80\x80\x80\x80\x80\x01"},
		{1<<56 - 1, "\xff\xff\xff\xff\xff\xff\xff\x7f"},
		{1 << 56, "\x80\x80\x80\x80\x80\x80\x80\x80\x01"},
		{1<<63 - 1, "\xff\xff\xff\xff\xff\xff\xff\xff\x7f"},
		{1 << 63, "\x80\x80\x80\x80\x80\x80\x80\x80\x80\x01"},
		{math.MaxUint64 - 1, "\xfe\xff\xff\xff\xff\xff\xff\xff\xff\x01"},
		{math.MaxUint64, "\xff\xff\xff\xff\xff\xff\xff\xff\xff\x01"},
	}
}

// manyNumbers are numbers of every length in bits, each with other bits.
func manyNumbers() []uint64 {
	l := []uint64{0, 300, 0x0102030405060708, 0xfedcba9876543210, 0x8040201008040201}
	for i := range 64 {
		one := uint64(1) << i
		l = append(l, one, one-1, one+1, one|one>>1, -one, 0x9e3779b97f4a7c15>>i)
	}
	return l
}

// wantGet fails unless Get of b is answered n, size.
func wantGet(t *testing.T, b []byte, n uint64, size int) {
	t.Helper()
	if got, k := Get(b); got != n || k != size {
		t.Errorf("P8.1: Get(%.24x): %d, %d, not %d, %d", b, got, k, n, size)
	}
}

func TestPutAndGetAtEachEdge(t *testing.T) {
	for _, e := range someEdges() {
		if b := Put(e.n); string(b) != e.b {
			t.Errorf("P8.1: Put(%d): %x, not %x", e.n, b, e.b)
		}
		wantGet(t, []byte(e.b), e.n, len(e.b))
	}
}

func TestPutAndGetOfManyNumbers(t *testing.T) {
	for _, n := range manyNumbers() {
		b := Put(n)
		if want := binary.AppendUvarint(nil, n); !bytes.Equal(b, want) {
			t.Errorf("P8.1: Put(%d): %x, not %x", n, b, want)
		}
		wantGet(t, b, n, len(b))
	}
}

func TestGetWithBytesBehindTheNumber(t *testing.T) {
	for _, e := range someEdges() {
		for _, behind := range []string{"\x00", "\x01", "\x7f", "\x80", "\xff", e.b, strings.Repeat("\xff", 3000)} {
			wantGet(t, []byte(e.b+behind), e.n, len(e.b))
		}
	}
}

func TestGetOfNoBytes(t *testing.T) {
	wantGet(t, nil, 0, 0)
	wantGet(t, []byte{}, 0, 0)
	wantGet(t, make([]byte, 0, 4), 0, 0)
	// What stands in the spare room is not looked at.
	wantGet(t, []byte{5, 6}[:0], 0, 0)
	wantGet(t, []byte{0x80, 1}[:1], 0, 0)
}

func TestGetOfBytesThatAreCutShort(t *testing.T) {
	for _, e := range someEdges() {
		for i := range len(e.b) {
			wantGet(t, []byte(e.b[:i]), 0, 0)
		}
	}
	for i := range 12 {
		wantGet(t, bytes.Repeat([]byte{0x80}, i), 0, 0)
		wantGet(t, bytes.Repeat([]byte{0xff}, i), 0, 0)
	}
}

func TestGetOfBytesThatAreLongerThanNeeded(t *testing.T) {
	for _, e := range someEdges() {
		last := len(e.b) - 1
		// The number goes on with groups of none.
		b := []byte(e.b[:last] + string([]byte{e.b[last] | 0x80}))
		for len(b) < 14 {
			wantGet(t, append(slices.Clone(b), 0), 0, 0)
			wantGet(t, append(slices.Clone(b), 0, 1), 0, 0)
			b = append(b, 0x80)
		}
	}
	wantGet(t, []byte{0x80, 0}, 0, 0)
	wantGet(t, []byte{0xff, 0}, 0, 0)
	wantGet(t, []byte{0xff, 0x80, 0}, 0, 0)
	wantGet(t, []byte{0x80, 0, 1}, 0, 0)
	// A byte without a bit in the midst is needed.
	wantGet(t, []byte{0x81, 0x80, 1}, 1<<14|1, 3)
}

func TestGetOfNumbersBeyond64Bits(t *testing.T) {
	for _, c := range []byte{0x80, 0x81, 0xfe, 0xff} {
		nine := bytes.Repeat([]byte{c}, 9)
		n, _ := binary.Uvarint(append(slices.Clone(nine), 1))
		wantGet(t, append(slices.Clone(nine), 1), n, 10)
		for tenth := 2; tenth < 256; tenth++ {
			wantGet(t, append(slices.Clone(nine), byte(tenth)), 0, 0)
			wantGet(t, append(slices.Clone(nine), byte(tenth), 0), 0, 0)
			wantGet(t, append(slices.Clone(nine), byte(tenth), 1), 0, 0)
		}
		wantGet(t, append(slices.Clone(nine), 0), 0, 0)
	}
	for _, size := range []int{10, 11, 12, 20, 64, 65, 1 << 20} {
		for _, last := range []byte{0, 1, 2, 0x7f, 0x80} {
			wantGet(t, append(bytes.Repeat([]byte{0x80}, size), last), 0, 0)
			wantGet(t, append(bytes.Repeat([]byte{0xff}, size), last), 0, 0)
		}
	}
}

// wantAsPut fails unless Get of b is answered the number whose Put b begins
// with, of all that there is: a number that Put does not make is none.
func wantAsPut(t *testing.T, b []byte) {
	t.Helper()
	n, size := binary.Uvarint(b)
	if size <= 0 || !bytes.Equal(Put(n), b[:size]) {
		n, size = 0, 0
	}
	wantGet(t, b, n, size)
}

func TestGetOfAllShortBytes(t *testing.T) {
	for i := range 1 << 8 {
		wantAsPut(t, []byte{byte(i)})
	}
	for i := range 1 << 16 {
		b := []byte{byte(i), byte(i >> 8)}
		wantAsPut(t, b)
		wantAsPut(t, append(b, 0))
		wantAsPut(t, append(b, 1))
		wantAsPut(t, append(b, 0x80, 0))
		wantAsPut(t, append(b, 0xff, 0x7f, 3))
		wantAsPut(t, append(bytes.Repeat([]byte{0x91}, 8), b...))
		wantAsPut(t, append(bytes.Repeat([]byte{0x91}, 9), b...))
	}
}

func TestPut32AndGet32(t *testing.T) {
	for n, want := range map[uint32]string{
		0:              "\x00\x00\x00\x00",
		1:              "\x01\x00\x00\x00",
		255:            "\xff\x00\x00\x00",
		256:            "\x00\x01\x00\x00",
		1 << 16:        "\x00\x00\x01\x00",
		1 << 24:        "\x00\x00\x00\x01",
		0x01020304:     "\x04\x03\x02\x01",
		0xfedcba98:     "\x98\xba\xdc\xfe",
		1 << 31:        "\x00\x00\x00\x80",
		math.MaxInt32:  "\xff\xff\xff\x7f",
		math.MaxUint32: "\xff\xff\xff\xff",
	} {
		if b := Put32(n); string(b) != want || Get32(b) != n {
			t.Errorf("P8.1: Put32(%d): %x, and back %d", n, b, Get32(b))
		}
	}
	for _, n := range manyNumbers() {
		n := uint32(n ^ n>>32)
		if b := Put32(n); len(b) != 4 || Get32(b) != n {
			t.Errorf("P8.1: Put32(%d): %x, and back %d", n, b, Get32(b))
		}
	}
}

func TestPut64AndGet64(t *testing.T) {
	for n, want := range map[uint64]string{
		0:                  "\x00\x00\x00\x00\x00\x00\x00\x00",
		1:                  "\x01\x00\x00\x00\x00\x00\x00\x00",
		256:                "\x00\x01\x00\x00\x00\x00\x00\x00",
		math.MaxUint32:     "\xff\xff\xff\xff\x00\x00\x00\x00",
		1 << 32:            "\x00\x00\x00\x00\x01\x00\x00\x00",
		0x0102030405060708: "\x08\x07\x06\x05\x04\x03\x02\x01",
		0xfedcba9876543210: "\x10\x32\x54\x76\x98\xba\xdc\xfe",
		1 << 63:            "\x00\x00\x00\x00\x00\x00\x00\x80",
		math.MaxUint64:     "\xff\xff\xff\xff\xff\xff\xff\xff",
	} {
		if b := Put64(n); string(b) != want || Get64(b) != n {
			t.Errorf("P8.1: Put64(%d): %x, and back %d", n, b, Get64(b))
		}
	}
	for _, n := range manyNumbers() {
		if b := Put64(n); len(b) != 8 || Get64(b) != n {
			t.Errorf("P8.1: Put64(%d): %x, and back %d", n, b, Get64(b))
		}
	}
}

func TestGet32AndGet64OfFewerBytes(t *testing.T) {
	if Get32(nil) != 0 || Get64(nil) != 0 {
		t.Error("P8.1: Get32 or Get64 of nil")
	}
	all := bytes.Repeat([]byte{0xff}, 8)
	for i := range 8 {
		if i < 4 && Get32(all[:i]) != 0 {
			t.Errorf("P8.1: Get32 of %d bytes: %d", i, Get32(all[:i]))
		}
		if Get64(all[:i]) != 0 {
			t.Errorf("P8.1: Get64 of %d bytes: %d", i, Get64(all[:i]))
		}
	}
}

func TestGet32AndGet64OfMoreBytes(t *testing.T) {
	for _, behind := range []int{1, 3, 4, 5, 8, 3000} {
		for _, n := range manyNumbers() {
			more := bytes.Repeat([]byte{0xa5}, behind)
			if got := Get32(append(Put32(uint32(n)), more...)); got != uint32(n) {
				t.Errorf("P8.1: Get32 with %d bytes behind %d: %d", behind, uint32(n), got)
			}
			if got := Get64(append(Put64(n), more...)); got != n {
				t.Errorf("P8.1: Get64 with %d bytes behind %d: %d", behind, n, got)
			}
		}
	}
}

// someTexts are texts by the bytes that their lengths take: of none, of one,
// of two, of three; and such as are no UTF-8.
func someTexts() []string {
	return []string{
		"", "a", "abc", "\x00", "\x80\x80\x01", "e\u0301", "\U0001f600",
		strings.Repeat("x", 127), strings.Repeat("x", 128), strings.Repeat("x", 129),
		strings.Repeat("yz", 150), strings.Repeat("x", 1<<14-1), strings.Repeat("x", 1<<14),
		"\xff", "\xc3", "a\xffb", "\xed\xa0\x80", "\xf8\x88\x80\x80\x80", "\xc0\x80",
		strings.Repeat("\xfe\x00", 70), strings.Repeat("\xff", 1<<14),
	}
}

// wantText fails unless GetText of b is answered s, size.
func wantText(t *testing.T, b []byte, s string, size int) {
	t.Helper()
	if got, n := GetText(b); got != s || n != size {
		t.Errorf("P8.1: GetText(%.24x): %.24q, %d, not %.24q, %d", b, got, n, s, size)
	}
}

func TestTextIsTheLengthAndTheText(t *testing.T) {
	for s, want := range map[string]string{
		"":                            "\x00",
		"abc":                         "\x03abc",
		"\u00e9":                      "\x02\xc3\xa9",
		"a\xff\x00":                   "\x03a\xff\x00",
		strings.Repeat("x", 127):      "\x7f" + strings.Repeat("x", 127),
		strings.Repeat("x", 128):      "\x80\x01" + strings.Repeat("x", 128),
		strings.Repeat("x", 300):      "\xac\x02" + strings.Repeat("x", 300),
		strings.Repeat("\xff", 1<<14): "\x80\x80\x01" + strings.Repeat("\xff", 1<<14),
	} {
		if b := Text(s); string(b) != want {
			t.Errorf("P8.1: Text(%.24q): %.24x", s, b)
		}
	}
}

func TestTextAndGetText(t *testing.T) {
	for _, s := range someTexts() {
		b := Text(s)
		if want := string(Put(uint64(len(s)))) + s; string(b) != want {
			t.Errorf("P8.1: Text(%.24q): %.24x", s, b)
		}
		wantText(t, b, s, len(b))
		for _, behind := range []string{"\x00", "d", "\xff", strings.Repeat("\x80", 300)} {
			wantText(t, append(Text(s), behind...), s, len(b))
		}
	}
}

func TestGetTextOfATextThatIsCutShort(t *testing.T) {
	wantText(t, nil, "", 0)
	wantText(t, []byte{}, "", 0)
	for _, s := range someTexts() {
		b := Text(s)
		for i := 0; i < len(b); i += 1 + i/64 {
			wantText(t, b[:i], "", 0)
		}
		wantText(t, b[:len(b)-1], "", 0)
	}
}

func TestGetTextOfALengthThatIsNone(t *testing.T) {
	for _, head := range []string{
		"\x80\x00", "\x83\x00", "\x83\x80\x00", "\x80\x80\x80", strings.Repeat("\x80", 9) + "\x00",
		strings.Repeat("\x80", 9) + "\x02", strings.Repeat("\xff", 9) + "\x7f",
		strings.Repeat("\x80", 10) + "\x01", "\x83" + strings.Repeat("\x80", 9) + "\x00",
	} {
		wantText(t, []byte(head), "", 0)
		if head[len(head)-1] < 0x80 {
			wantText(t, []byte(head+"abcdefgh"), "", 0)
		}
	}
}

func TestGetTextOfALengthGreaterThanAnyText(t *testing.T) {
	for _, size := range []uint64{
		4, 1 << 31, 1 << 32, 1<<32 | 1, 1<<53 | 1, 1<<63 - 11, 1<<63 - 2, 1<<63 - 1,
		1 << 63, 1<<63 | 1, 1<<63 | 3, math.MaxUint64 - 12, math.MaxUint64 - 10,
		math.MaxUint64 - 9, math.MaxUint64 - 2, math.MaxUint64 - 1, math.MaxUint64,
	} {
		wantText(t, append(Put(size), "abc"...), "", 0)
		wantText(t, Put(size), "", 0)
	}
}

func TestWhatIsHandedInStaysAsItIs(t *testing.T) {
	room := append(Text("abcdefghijkl"), 0x80, 1, 0, 0, 0, 0)
	kept := slices.Clone(room)
	for i := range len(room) {
		for j := i; j <= len(room); j++ {
			Get(room[i:j])
			Get32(room[i:j])
			Get64(room[i:j])
			GetText(room[i:j])
		}
	}
	if !bytes.Equal(room, kept) {
		t.Error("P0.3: bytes that were handed in are changed")
	}
	s, _ := GetText(room)
	copy(room, bytes.Repeat([]byte{0xee}, len(room)))
	if s != "abcdefghijkl" {
		t.Error("P0.3: a text of GetText is changed with the bytes that it came from")
	}
}

// scribble writes into all of b, its spare room too.
func scribble(b []byte) {
	b = b[:cap(b)]
	for i := range b {
		b[i] = 0xee
	}
}

func TestAnswersAreNewMemory(t *testing.T) {
	s := strings.Repeat("t", 200)
	calls := []func() []byte{
		func() []byte { return Put(0) },
		func() []byte { return Put(5) },
		func() []byte { return Put(math.MaxUint64) },
		func() []byte { return Put32(7) },
		func() []byte { return Put64(7) },
		func() []byte { return Text("") },
		func() []byte { return Text(s) },
	}
	for i, call := range calls {
		first := call()
		want := string(first)
		other := call()
		scribble(first)
		if string(other) != want || string(call()) != want {
			t.Errorf("P0.3: call %d: who writes into an answer changes another", i)
		}
	}
	if s != strings.Repeat("t", 200) {
		t.Error("P0.3: who writes into Text's answer changes the text")
	}
}

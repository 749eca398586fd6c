package reclog

import (
	"bytes"
	"encoding/binary"
	"fmt"
	"hash/crc32"
	"math"
	"slices"
	"strings"
	"testing"
)

// mixed are size bytes without a pattern; others at each seed.
func mixed(size int, seed uint64) []byte {
	b := make([]byte, size)
	n := seed*0x9e3779b97f4a7c15 + 0xd1342543de82ef95
	for i := range b {
		n ^= n << 13
		n ^= n >> 7
		n ^= n << 17
		b[i] = byte(n >> 56)
	}
	return b
}

// raw makes a piece with any length in its head, and the sum of what follows.
func raw(kind byte, size int, b string) string {
	rest := string(binary.LittleEndian.AppendUint16(nil, uint16(size))) + string([]byte{kind}) + b
	sum := crc32.Checksum([]byte(rest), crc32.MakeTable(crc32.Castagnoli))
	return string(binary.LittleEndian.AppendUint32(nil, sum)) + rest
}

// made makes a piece.
func made(kind byte, b string) string {
	return raw(kind, len(b), b)
}

// zeros are n bytes 0.
func zeros(n int) string {
	return strings.Repeat("\x00", n)
}

// xs are n bytes.
func xs(n int) string {
	return strings.Repeat("x", n)
}

// laid lays records, one behind the other.
func laid(records ...[]byte) []byte {
	var log []byte
	for _, r := range records {
		log = append(log, Append(len(log), r)...)
	}
	return log
}

// wantLaid fails unless Append(at, b) is answered want.
func wantLaid(t *testing.T, at int, b []byte, want string) {
	t.Helper()
	if got := Append(at, b); string(got) != want {
		t.Errorf("P11.1: Append(%d) of %d bytes: %d bytes %.40x, not %d bytes %.40x", at, len(b), len(got), got, len(want), want)
	}
}

// byWords is what Append(at, b) is by the chapter's words: a block at a time,
// each filled as far as it goes.
func byWords(at int, b []byte) string {
	s, place, pieces := "", at%256, 0
	for {
		if 256-place < 7 {
			s += zeros(256 - place)
			place = 0
		}
		n := min(256-place-7, len(b))
		isFirst, isLast := pieces == 0, n == len(b)
		kind := map[[2]bool]byte{{true, true}: 1, {true, false}: 2, {false, false}: 3, {false, true}: 4}[[2]bool{isFirst, isLast}]
		s += made(kind, string(b[:n]))
		place, pieces, b = (place+7+n)%256, pieces+1, b[n:]
		if isLast {
			return s
		}
	}
}

// places are lengths of logs: those at the beginning and the end of a block, in
// the first block and in later ones.
func places() []int {
	var l []int
	for _, block := range []int{0, 256, 3 * 256, 40 * 256, 1 << 31, 1 << 40, math.MaxInt - 1023} {
		for _, at := range []int{0, 1, 2, 7, 100, 241, 242, 243, 247, 248, 249, 250, 251, 252, 253, 254, 255, 256, 257} {
			l = append(l, block+at)
		}
	}
	return append(l, math.MaxInt-256, math.MaxInt-7, math.MaxInt-6, math.MaxInt-5, math.MaxInt-1, math.MaxInt)
}

// sizes are lengths of a record behind a log of at bytes: none, one, as many as
// just fill the block and those beside, several blocks, and those beside.
func sizes(at int) []int {
	l := []int{0, 1, 2, 255, 256, 257, 1000, 5000}
	left := 256 - at%256
	for _, fills := range []int{left - 7, 249, left - 7 + 249, 2 * 249, left - 7 + 2*249, left - 7 + 10*249} {
		for _, more := range []int{-7, -2, -1, 0, 1, 2, 7} {
			if fills+more >= 0 {
				l = append(l, fills+more)
			}
		}
	}
	return l
}

func TestAppendByTheWords(t *testing.T) {
	for _, at := range places() {
		for _, size := range sizes(at) {
			b := mixed(size, uint64(size))
			wantLaid(t, at, b, byWords(at, b))
		}
	}
}

func TestAppendWrittenOut(t *testing.T) {
	for _, x := range []struct {
		at, size int
		want     string
	}{
		// No bytes and one: whole, but where a head fills the block.
		{0, 0, made(1, "")},
		{0, 1, made(1, "x")},
		{1, 0, made(1, "")},
		{1, 1, made(1, "x")},
		{248, 0, made(1, "")},
		{248, 1, made(1, "x")},
		{249, 0, made(1, "")},
		{249, 1, made(2, "") + made(4, "x")},
		{250, 0, zeros(6) + made(1, "")},
		{250, 1, zeros(6) + made(1, "x")},
		{251, 1, zeros(5) + made(1, "x")},
		{252, 1, zeros(4) + made(1, "x")},
		{253, 1, zeros(3) + made(1, "x")},
		{254, 1, zeros(2) + made(1, "x")},
		{255, 0, zeros(1) + made(1, "")},
		{255, 1, zeros(1) + made(1, "x")},
		{256, 0, made(1, "")},
		{256, 1, made(1, "x")},
		{257, 0, made(1, "")},
		{257, 1, made(1, "x")},
		// As many as just fill the block, and one more.
		{0, 249, made(1, xs(249))},
		{0, 250, made(2, xs(249)) + made(4, "x")},
		{1, 248, made(1, xs(248))},
		{1, 249, made(2, xs(248)) + made(4, "x")},
		{248, 2, made(2, "x") + made(4, "x")},
		{249, 249, made(2, "") + made(4, xs(249))},
		{249, 250, made(2, "") + made(3, xs(249)) + made(4, "x")},
		{250, 249, zeros(6) + made(1, xs(249))},
		{250, 250, zeros(6) + made(2, xs(249)) + made(4, "x")},
		{255, 249, zeros(1) + made(1, xs(249))},
		{255, 250, zeros(1) + made(2, xs(249)) + made(4, "x")},
		{256, 249, made(1, xs(249))},
		{256, 250, made(2, xs(249)) + made(4, "x")},
		{257, 248, made(1, xs(248))},
		{257, 249, made(2, xs(248)) + made(4, "x")},
		// Several blocks, the last of them full and begun.
		{0, 498, made(2, xs(249)) + made(4, xs(249))},
		{0, 499, made(2, xs(249)) + made(3, xs(249)) + made(4, "x")},
		{1, 800, made(2, xs(248)) + made(3, xs(249)) + made(3, xs(249)) + made(4, xs(54))},
		{248, 500, made(2, "x") + made(3, xs(249)) + made(3, xs(249)) + made(4, "x")},
		{249, 747, made(2, "") + made(3, xs(249)) + made(3, xs(249)) + made(4, xs(249))},
		{250, 747, zeros(6) + made(2, xs(249)) + made(3, xs(249)) + made(4, xs(249))},
		{255, 600, zeros(1) + made(2, xs(249)) + made(3, xs(249)) + made(4, xs(102))},
	} {
		for _, block := range []int{0, 256, 9 * 256, 1 << 40} {
			wantLaid(t, block+x.at, []byte(xs(x.size)), x.want)
		}
	}
}

func TestAppendByteByByte(t *testing.T) {
	wantLaid(t, 0, []byte("a"), "\x69\x69\x2d\x15\x01\x00\x01a")
	wantLaid(t, 0, []byte(xs(249)), "\x31\x66\x07\xd3\xf9\x00\x01"+xs(249))
	wantLaid(t, 253, []byte(xs(250)), "\x00\x00\x00\x63\x3e\x4f\xae\xf9\x00\x02"+xs(249)+"\x61\x8c\xe9\x20\x01\x00\x04x")
}

func TestAppendOfANilRecord(t *testing.T) {
	for _, at := range places() {
		wantLaid(t, at, nil, string(Append(at, []byte{})))
	}
}

func TestAppendOfALongRecord(t *testing.T) {
	b := mixed(1<<20, 1)
	for _, at := range []int{0, 249, 250, 777} {
		log := append(make([]byte, at), Append(at, b)...)
		var got []byte
		for at = at + len(zeroed(at)); at < len(log); {
			n := int(binary.LittleEndian.Uint16(log[at+4:]))
			got = append(got, log[at+7:at+7+n]...)
			at += 7 + n
			at += len(zeroed(at))
		}
		if !bytes.Equal(got, b) {
			t.Error("P11.1: the pieces of a long record hold other bytes")
		}
	}
}

// zeroed are the zeros behind a piece that ends at that place.
func zeroed(at int) string {
	if left := 256 - at%256; left < 7 {
		return zeros(left)
	}
	return ""
}

func TestAppendAtLessThanNothing(t *testing.T) {
	// The chapter says nothing of such a log; it is taken as one of no bytes.
	for _, at := range []int{math.MinInt, math.MinInt + 1, -1 << 40, -257, -256, -255, -7, -6, -1} {
		for _, size := range []int{0, 1, 249, 250, 1000} {
			b := mixed(size, 2)
			wantLaid(t, at, b, string(Append(0, b)))
		}
	}
}

// wantRead fails unless Read(log) is answered these records, n and cut.
func wantRead(t *testing.T, what, log string, records []string, n int, cut bool) {
	t.Helper()
	l, end, ok := Read([]byte(log))
	same := slices.EqualFunc(l, records, func(a []byte, b string) bool { return string(a) == b })
	if !same || end != n || ok != cut {
		t.Errorf("P11.2: %s: %d records %.60q, %d, %v, not %d records, %d, %v", what, len(l), l, end, ok, len(records), n, cut)
	}
}

func TestReadOfNoBytes(t *testing.T) {
	for _, log := range [][]byte{nil, {}, []byte(made(1, "a"))[:0], make([]byte, 0, 300)} {
		if l, n, ok := Read(log); len(l) != 0 || n != 0 || !ok {
			t.Errorf("P11.2: Read of no bytes: %q, %d, %v", l, n, ok)
		}
	}
}

// filled makes a log of at bytes, and tells its records; false: none has just
// so many bytes, as no head goes into them.
func filled(at int) (string, []string, bool) {
	log := ""
	var records []string
	for ; at >= 256; at -= 256 {
		log += made(1, xs(249))
		records = append(records, xs(249))
	}
	if at >= 7 {
		log += made(1, xs(at-7))
		records = append(records, xs(at-7))
	}
	return log, records, at == 0 || at >= 7
}

func TestReadOfWhatAppendLaid(t *testing.T) {
	for _, at := range places() {
		if at > 1<<14 {
			continue
		}
		front, ahead, ok := filled(at)
		if !ok {
			continue
		}
		for _, size := range sizes(at) {
			b := mixed(size, 3)
			log := front + string(Append(at, b))
			wantRead(t, fmt.Sprintf("%d bytes behind %d", size, at), log, append(slices.Clone(ahead), string(b)), len(log), true)
		}
	}
}

func TestReadOfManyRecords(t *testing.T) {
	var records [][]byte
	var want []string
	for i := range 2000 {
		b := mixed(i*i*7%613, uint64(i))
		records = append(records, b)
		want = append(want, string(b))
	}
	log := string(laid(records...))
	wantRead(t, "many records", log, want, len(log), true)
	long := mixed(1<<20, 4)
	log = string(laid([]byte("a"), long, nil, long))
	wantRead(t, "long records", log, []string{"a", string(long), "", string(long)}, len(log), true)
	none := string(laid(make([][]byte, 1000)...))
	wantRead(t, "records of no bytes", none, make([]string, 1000), len(none), true)
}

func TestReadOfALogThatIsCut(t *testing.T) {
	var records [][]byte
	var want []string
	ends := []int{0}
	for _, size := range []int{0, 1, 227, 3, 235, 0, 0, 1, 240, 600, 20, 0, 214, 0, 249, 250, 5, 1500, 12} {
		records = append(records, mixed(size, uint64(size)))
		want = append(want, string(records[len(records)-1]))
		ends = append(ends, len(laid(records...)))
	}
	log := string(laid(records...))
	for n := range len(log) + 1 {
		k := 0
		for k+1 < len(ends) && ends[k+1] <= n {
			k++
		}
		wantRead(t, fmt.Sprintf("a log cut at %d", n), log[:n], want[:k], ends[k], true)
	}
}

func TestReadOfPiecesInEachOrder(t *testing.T) {
	// Up to five pieces of each kind, and what does not go: the record's
	// bytes tell which pieces it was made of.
	for n := range 5 * 5 * 5 * 5 * 5 {
		kinds, log := "", ""
		for range 5 {
			k := n % 5
			n /= 5
			if k > 0 {
				kinds += string(rune('0' + k))
				log += made(byte(k), string(rune('a'+len(kinds))))
			}
		}
		want, end, cut := readByWords(log)
		wantRead(t, "pieces "+kinds, log, want, end, cut)
	}
}

func TestReadOfPiecesOutOfPlace(t *testing.T) {
	one := made(1, "one")
	for _, x := range []struct {
		what, log string
		cut       bool
	}{
		{"a 2", made(2, "a"), true},
		{"a 2 and a 3", made(2, "a") + made(3, "b"), true},
		{"a 2 and many 3", made(2, "a") + strings.Repeat(made(3, "b"), 20), true},
		{"a 3", made(3, "a"), false},
		{"a 4", made(4, "a"), false},
		{"a 3 and a 4", made(3, "a") + made(4, "b"), false},
		{"a 3 and less than a head", made(3, "a") + "ab", false},
		{"a 4 and a 1", made(4, "a") + made(1, "b"), false},
		{"a 2 and a 1", made(2, "a") + made(1, "b"), false},
		{"a 2 and a 2", made(2, "a") + made(2, "b"), false},
		{"a 2, a 3 and a 1", made(2, "a") + made(3, "b") + made(1, "c"), false},
		{"a 2, a 3 and a 2", made(2, "a") + made(3, "b") + made(2, "c"), false},
		{"a 2, a 2 and a 4", made(2, "a") + made(2, "b") + made(4, "c"), false},
		{"a 2, a 1 and a 4", made(2, "a") + made(1, "b") + made(4, "c"), false},
		{"a 2, a 1 and less than a head", made(2, "a") + made(1, "b") + "ab", false},
	} {
		wantRead(t, x.what, x.log, nil, 0, x.cut)
		wantRead(t, x.what+" behind a 1", one+x.log, []string{"one"}, 10, x.cut)
		two := made(2, "tw") + made(4, "o")
		wantRead(t, x.what+" behind a 2 and a 4", two+x.log, []string{"two"}, 17, x.cut)
	}
	log := made(2, "a") + made(3, "b") + made(3, "") + made(3, "c") + made(4, "d")
	wantRead(t, "pieces 2, 3, 3, 3, 4", log, []string{"abcd"}, len(log), true)
	log = made(2, "") + made(4, "")
	wantRead(t, "pieces of no bytes", log, []string{""}, len(log), true)
}

func TestReadOfEachKind(t *testing.T) {
	for k := range 256 {
		for _, b := range []string{"", "a", xs(200)} {
			log := made(byte(k), b)
			switch k {
			case 1:
				wantRead(t, "a 1", log, []string{b}, len(log), true)
			case 2:
				wantRead(t, "a 2", log, nil, 0, true)
			default:
				wantRead(t, fmt.Sprint("a ", k), log, nil, 0, false)
			}
			behind := made(2, "x") + log
			switch k {
			case 3:
				wantRead(t, "a 2 and a 3", behind, nil, 0, true)
			case 4:
				wantRead(t, "a 2 and a 4", behind, []string{"x" + b}, len(behind), true)
			default:
				wantRead(t, fmt.Sprint("a 2 and a ", k), behind, nil, 0, false)
			}
		}
	}
}

// wantChanged fails unless Read goes just up to the record that begins at the
// place from, as something of its piece at the place at was changed; which was
// no head that goes beyond the log.
func wantChanged(t *testing.T, log string, at int, by byte, want []string, from int) {
	t.Helper()
	b := []byte(log)
	b[at] ^= by
	wantRead(t, fmt.Sprintf("byte %d changed by %02x", at, by), string(b), want, from, false)
}

func TestReadOfBytesThatWereChanged(t *testing.T) {
	// A first record, one of three pieces, one behind: so that no length goes
	// beyond the log.
	log := made(1, "first") + made(2, xs(237)) + made(3, xs(249)) + made(4, "end") + made(1, xs(239)) + made(1, xs(249))
	wantRead(t, "nothing changed", log, []string{"first", xs(237+249) + "end", xs(239), xs(249)}, len(log), true)
	for at := range 256*2 + 10 {
		for by := 1; by < 256; by <<= 1 {
			if at < 12 {
				wantChanged(t, log, at, byte(by), nil, 0)
			} else {
				wantChanged(t, log, at, byte(by), []string{"first"}, 12)
			}
		}
	}
	for _, by := range []byte{3, 0x0f, 0x7f, 0xff} {
		for _, at := range []int{0, 3, 4, 5, 6, 7, 11} {
			wantChanged(t, log, at, by, nil, 0)
		}
		for _, at := range []int{12, 15, 16, 17, 18, 19, 255, 256, 260, 261, 262, 263, 511, 512, 516, 517, 518, 519, 521} {
			wantChanged(t, log, at, by, []string{"first"}, 12)
		}
	}
}

func TestReadOfALengthThatWasChanged(t *testing.T) {
	// The sum fits the length that the head tells, where it can.
	body := xs(300)
	for size := range 1 << 16 {
		log := raw(1, size, body[:min(size, 300)]) + body
		switch {
		case size <= 249:
			// Whole; what stands behind it is no piece.
			n := 7 + size
			wantRead(t, fmt.Sprintf("a length of %d", size), log[:n], []string{body[:size]}, n, true)
			wantRead(t, fmt.Sprintf("a length of %d, cut", size), log[:6+size], nil, 0, true)
		default:
			wantRead(t, fmt.Sprintf("a length of %d, beyond its block", size), log, nil, 0, false)
			wantRead(t, fmt.Sprintf("a length of %d, beyond its block and the log", size), log[:7], nil, 0, false)
		}
	}
}

func TestReadOfALengthThatIsOneOff(t *testing.T) {
	for _, size := range []int{0, 1, 5, 100, 248} {
		more := raw(1, size+1, xs(size))
		wantRead(t, "one more than the log has", more, nil, 0, true)
		wantRead(t, "one more than the piece had", more+"xxxxxxxx", nil, 0, false)
		wantRead(t, "one less than the piece had", raw(1, size, xs(size+1)), nil, 0, false)
	}
	// The sum holds the length, too.
	b := []byte(made(1, "ab"))
	b[4] = 1
	wantRead(t, "a length without its sum", string(b), nil, 0, false)
}

func TestReadOfALengthInALaterBlock(t *testing.T) {
	for _, at := range []int{0, 7, 100, 200, 240, 248, 249} {
		front, ahead, _ := filled(512 + at)
		left := 249 - at
		for size := 1; size < 600; size++ {
			// The head alone is looked at where the piece goes beyond the log:
			// neither its kind counts nor its place.
			for _, kind := range []byte{0, 1, 2, 3, 4, 5, 255} {
				log := front + raw(kind, size, "")
				what := fmt.Sprintf("a length of %d, of kind %d, at %d", size, kind, at)
				wantRead(t, what, log, ahead, len(front), size <= left)
				wantRead(t, what+", some bytes more", log+xs(max(min(left, size)-1, 0)), ahead, len(front), size <= left)
				wantRead(t, what+", many bytes more", log+xs(700), ahead, len(front), false)
			}
		}
	}
}

func TestReadOfATornPieceBehindPieces(t *testing.T) {
	one := made(1, "one")
	bad := raw(4, 3, "abc")
	bad = "~" + bad[1:]
	for _, x := range []struct {
		what, log string
		cut       bool
	}{
		{"a wrong sum", bad, false},
		{"a wrong sum, its last byte cut off", bad[:9], true},
		{"a wrong sum, its head alone", bad[:7], true},
		{"less than a head", bad[:6], true},
		{"one byte", bad[:1], true},
		{"a head beyond its block", raw(4, 256, ""), false},
		{"a head of zeros", zeros(7), false},
		{"six zeros", zeros(6), true},
		{"seven bytes 255", strings.Repeat("\xff", 7), false},
		{"six bytes 255", strings.Repeat("\xff", 6), true},
	} {
		wantRead(t, x.what, x.log, nil, 0, x.cut)
		wantRead(t, x.what+" behind a 1", one+x.log, []string{"one"}, 10, x.cut)
		wantRead(t, x.what+" behind a 1 and a 2", one+made(2, "a")+x.log, []string{"one"}, 10, x.cut)
		wantRead(t, x.what+" behind a 1, a 2 and a 3", one+made(2, "a")+made(3, "b")+x.log, []string{"one"}, 10, x.cut)
		wantRead(t, x.what+" behind a 1 and a 3", one+made(3, "a")+x.log, []string{"one"}, 10, false)
		wantRead(t, x.what+" behind a 1 and a 5", one+made(5, "a")+x.log, []string{"one"}, 10, false)
	}
}

func TestReadLooksAtNoZeros(t *testing.T) {
	for left := 1; left < 7; left++ {
		front := made(1, xs(249-left))
		for _, fill := range []string{"\x00", "\x01", "\xff", "x"} {
			pad := strings.Repeat(fill, left)
			what := fmt.Sprintf("%d bytes %x at the block's end", left, fill)
			for n := range left + 1 {
				wantRead(t, what+", cut", front+pad[:n], []string{front[7:]}, 256-left, true)
			}
			log := front + pad + made(1, "a")
			wantRead(t, what, log, []string{front[7:], "a"}, len(log), true)
			log = front + pad + made(2, "a") + made(4, "b")
			wantRead(t, what+" and two pieces", log, []string{front[7:], "ab"}, len(log), true)
			log = made(2, xs(249-left)) + pad + made(4, "b")
			wantRead(t, what+" within a record", log, []string{xs(249-left) + "b"}, len(log), true)
			wantRead(t, what+" within a record that is cut off", log[:256+7], nil, 0, true)
			wantRead(t, what+" and a wrong piece", front+pad+made(3, "a"), []string{front[7:]}, 256-left, false)
			// No piece begins within them.
			wantRead(t, what+" left out", front+made(1, "abcdefgh"), []string{front[7:]}, 256-left, false)
		}
	}
	// Seven bytes are a head.
	log := made(1, xs(242)) + zeros(7) + made(1, "a")
	wantRead(t, "seven zeros at the block's end", log, []string{xs(242)}, 249, false)
	log = made(1, xs(242)) + made(1, "") + made(1, "a")
	wantRead(t, "a head at the block's end", log, []string{xs(242), "", "a"}, len(log), true)
}

// tornWays are ways to change a log: bytes of other values, pieces that go,
// come twice or change places, what is cut and what stands behind.
func tornWays(log string, seed uint64) []string {
	r := mixed(4000, seed)
	at := func(i int) int {
		if len(log) == 0 {
			return 0
		}
		return (int(r[i])<<8 | int(r[i+1])) % len(log)
	}
	var l []string
	for i := 0; i+8 < len(r); i += 8 {
		a, b := min(at(i), at(i+2)), max(at(i), at(i+2))
		l = append(l, log[:a]+log[b:], log[:b]+log[a:], log[:a]+string(r[i:i+4])+log[a:], log[a:b])
	}
	return l
}

func TestReadOfMixedLogs(t *testing.T) {
	for seed := range uint64(150) {
		r := mixed(40, seed)
		log := ""
		for i := 0; i+2 < len(r); i += 3 {
			size := int(r[i])
			if r[i+1] < 100 {
				size %= 20
			}
			if left := 256 - len(log)%256; left >= 7 {
				size = min(size, left-7)
			}
			log += zeroed(len(log))
			kinds := []byte{1, 1, 1, 2, 3, 4}
			log += made(kinds[int(r[i+2])%len(kinds)], string(mixed(size, seed)))
		}
		for n := 0; n <= len(log); n += 3 {
			records, end, cut := readByWords(log[:n])
			wantRead(t, "a mixed log, cut", log[:n], records, end, cut)
		}
		for _, torn := range tornWays(log, seed) {
			records, end, cut := readByWords(torn)
			wantRead(t, "a mixed log, torn", torn, records, end, cut)
		}
	}
}

func TestReadOfAnyBytes(t *testing.T) {
	for seed := range uint64(2000) {
		log := string(mixed(int(seed), seed))
		records, end, cut := readByWords(log)
		wantRead(t, "any bytes", log, records, end, cut)
	}
	for x := range 256 {
		for _, n := range []int{1, 6, 7, 8, 249, 255, 256, 257, 600} {
			log := strings.Repeat(string([]byte{byte(x)}), n)
			records, end, cut := readByWords(log)
			wantRead(t, "bytes all alike", log, records, end, cut)
		}
	}
}

func TestReadLooksAtNoSpareRoom(t *testing.T) {
	log := laid([]byte("abc"), mixed(600, 14), nil, mixed(230, 15))
	for n := range log {
		l, end, cut := Read(log[:n])
		var want []string
		for _, each := range l {
			want = append(want, string(each))
		}
		wantRead(t, fmt.Sprintf("%d bytes without spare room", n), string(log[:n]), want, end, cut)
	}
}

func TestWhatIsHandedInStaysAsItIs(t *testing.T) {
	room := mixed(3000, 5)
	kept := slices.Clone(room)
	for i := 0; i < len(room); i += 37 {
		for j := i; j <= len(room); j += 113 {
			Append(i, room[i:j])
			Read(room[i:j])
		}
	}
	if !bytes.Equal(room, kept) {
		t.Error("P0.3: Append or Read changed bytes that were handed in")
	}
	log := append(laid([]byte("abc"), mixed(600, 6), nil), 1, 2, 3, 4, 5, 6, 7, 8)
	kept = slices.Clone(log)
	for n := range len(log) {
		Read(log[:n])
	}
	if !bytes.Equal(log, kept) {
		t.Error("P0.3: Read changed a log that was handed in")
	}
}

// scribble writes into all of b, its spare room too.
func scribble(b []byte) {
	b = b[:cap(b)]
	for i := range b {
		b[i] = 0xee
	}
}

func TestAppendAnswersNewMemory(t *testing.T) {
	for _, at := range []int{0, 1, 249, 250, 255} {
		for _, size := range []int{0, 1, 249, 250, 2000} {
			b := mixed(size, 7)
			first := Append(at, b)
			want := string(first)
			other := Append(at, b)
			scribble(b)
			if string(first) != want {
				t.Errorf("P0.3: Append(%d) of %d bytes keeps them", at, size)
			}
			b = mixed(size, 7)
			scribble(first)
			if string(other) != want || string(Append(at, b)) != want || !bytes.Equal(b, mixed(size, 7)) {
				t.Errorf("P0.3: who writes into an answer of Append(%d) changes another, or the record", at)
			}
		}
	}
}

func TestReadAnswersNewMemory(t *testing.T) {
	records := [][]byte{nil, []byte("a"), mixed(241, 8), mixed(2, 9), mixed(700, 10), nil, mixed(30, 11)}
	log := laid(records...)
	kept := slices.Clone(log)
	other, _, _ := Read(log)
	for i := range records {
		l, _, _ := Read(log)
		// No record shares memory with the log, or with another record.
		scribble(l[i])
		// Nor does the list with another one.
		for j := range l {
			if i != j && !bytes.Equal(l[j], records[j]) {
				t.Errorf("P0.3: who writes into record %d changes record %d", i, j)
			}
		}
		clear(l[:cap(l)])
	}
	if !bytes.Equal(log, kept) {
		t.Error("P0.3: who writes into a record of Read changes the log")
	}
	scribble(log)
	for j := range other {
		if !bytes.Equal(other[j], records[j]) {
			t.Errorf("P0.3: record %d of Read is changed with the log, or with another answer", j)
		}
	}
}

func TestAnswersHangOnTheArgumentsAlone(t *testing.T) {
	log := laid([]byte("abc"), mixed(600, 12))
	b := mixed(500, 13)
	want := string(Append(77, b))
	for n := range len(log) {
		Read(log[n:])
		Append(n, log[:n])
		if string(Append(77, b)) != want {
			t.Fatal("P0.5: an answer of Append hangs on the calls ahead of it")
		}
	}
	wantRead(t, "a log behind other calls", string(log), []string{"abc", string(mixed(600, 12))}, len(log), true)
}

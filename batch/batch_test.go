package batch

import (
	"bytes"
	"encoding/binary"
	"fmt"
	"math"
	"math/rand/v2"
	"slices"
	"strings"
	"testing"

	"incipit/api"
)

func put(s, v string) api.Op { return api.Op{Kind: api.KPut, Spelling: s, Value: v} }
func del(s string) api.Op    { return api.Op{Kind: api.KDel, Spelling: s} }

// many are n ops: puts, each third a del.
func many(n int) []api.Op {
	var l []api.Op
	for i := range n {
		if i%3 == 2 {
			l = append(l, del(fmt.Sprint("k", i)))
			continue
		}
		l = append(l, put(fmt.Sprint("k", i), strings.Repeat("v", i)))
	}
	return l
}

// some is a group of all that is ordinary: both kinds, an empty value, one key
// by two spellings, one spelling twice.
func some() []api.Op {
	return []api.Op{put("\u00e9", "first"), del("b"), put("c", ""), put("e\u0301", "again"), del("\u00e9"), put("\U0001f600", "\x00\xff")}
}

// short tells the beginning of what may be long.
func short(x any) string {
	return fmt.Sprintf("%.80q", fmt.Sprint(x))
}

// values are texts of n bytes.
func values(n int) string {
	return strings.Repeat("v", n)
}

const mostValue = 1 << 20

// refused are ops that are no group, and why.
func refused() []struct {
	ops []api.Op
	err api.Errno
} {
	long, badKey := values(mostValue+1), "\xff"
	form, key, large := api.Op{Kind: 2, Spelling: "a"}, put(badKey, ""), put("a", long)
	ok := put("a", "v")
	return []struct {
		ops []api.Op
		err api.Errno
	}{
		// How many there are.
		{nil, api.ErrForm},
		{[]api.Op{}, api.ErrForm},
		{many(51), api.ErrForm},
		{many(52), api.ErrForm},
		{many(100), api.ErrForm},
		{many(256 + 1), api.ErrForm},
		{slices.Repeat([]api.Op{ok}, 1<<16+1), api.ErrForm},
		// A kind that there is not.
		{[]api.Op{{Kind: -1, Spelling: "a"}}, api.ErrForm},
		{[]api.Op{{Kind: 2, Spelling: "a"}}, api.ErrForm},
		{[]api.Op{{Kind: -1, Spelling: "a", Value: "v"}}, api.ErrForm},
		{[]api.Op{{Kind: 2, Spelling: "a", Value: "v"}}, api.ErrForm},
		{[]api.Op{{Kind: 3, Spelling: "a"}}, api.ErrForm},
		{[]api.Op{{Kind: 255, Spelling: "a"}}, api.ErrForm},
		{[]api.Op{{Kind: 256, Spelling: "a"}}, api.ErrForm},
		{[]api.Op{{Kind: 257, Spelling: "a"}}, api.ErrForm},
		{[]api.Op{{Kind: -255, Spelling: "a"}}, api.ErrForm},
		{[]api.Op{{Kind: 1 << 32, Spelling: "a"}}, api.ErrForm},
		{[]api.Op{{Kind: 1<<32 + 1, Spelling: "a"}}, api.ErrForm},
		{[]api.Op{{Kind: math.MaxInt, Spelling: "a"}}, api.ErrForm},
		{[]api.Op{{Kind: math.MinInt, Spelling: "a"}}, api.ErrForm},
		{[]api.Op{{Kind: math.MinInt + 1, Spelling: "a"}}, api.ErrForm},
		// A del with a value.
		{[]api.Op{{Kind: api.KDel, Spelling: "a", Value: "v"}}, api.ErrForm},
		{[]api.Op{{Kind: api.KDel, Spelling: "a", Value: "\x00"}}, api.ErrForm},
		// What is no key.
		{[]api.Op{put("", "")}, api.ErrBadKey},
		{[]api.Op{del("")}, api.ErrBadKey},
		{[]api.Op{put(strings.Repeat("a", 4097), "")}, api.ErrBadKey},
		{[]api.Op{del(strings.Repeat("a", 4097))}, api.ErrBadKey},
		{[]api.Op{put(strings.Repeat("\u20ac", 1366), "")}, api.ErrBadKey},
		{[]api.Op{put("\xff", "v")}, api.ErrBadKey},
		{[]api.Op{del("a\xc3")}, api.ErrBadKey},
		{[]api.Op{put("\xed\xa0\x80", "v")}, api.ErrBadKey},
		// A value that is too long.
		{[]api.Op{large}, api.ErrTooLarge},
		{[]api.Op{put("a", values(2*mostValue))}, api.ErrTooLarge},
		// Several faults: how many there are, ahead of all.
		{append(many(50), form), api.ErrForm},
		{append([]api.Op{key}, many(50)...), api.ErrForm},
		{append([]api.Op{large}, many(50)...), api.ErrForm},
		{slices.Repeat([]api.Op{key}, 51), api.ErrForm},
		{slices.Repeat([]api.Op{large}, 51), api.ErrForm},
		// Several in one op: the form, the key, the value.
		{[]api.Op{{Kind: 2}}, api.ErrForm},
		{[]api.Op{{Kind: -1, Spelling: badKey}}, api.ErrForm},
		{[]api.Op{{Kind: 2, Spelling: "a", Value: long}}, api.ErrForm},
		{[]api.Op{{Kind: 2, Spelling: badKey, Value: long}}, api.ErrForm},
		{[]api.Op{{Kind: api.KDel, Value: "v"}}, api.ErrForm},
		{[]api.Op{{Kind: api.KDel, Spelling: badKey, Value: "v"}}, api.ErrForm},
		{[]api.Op{{Kind: api.KDel, Spelling: "a", Value: long}}, api.ErrForm},
		{[]api.Op{{Kind: api.KDel, Spelling: badKey, Value: long}}, api.ErrForm},
		{[]api.Op{put("", long)}, api.ErrBadKey},
		{[]api.Op{put(badKey, long)}, api.ErrBadKey},
		{[]api.Op{put(strings.Repeat("a", 4097), long)}, api.ErrBadKey},
		// Several in several ops: the first op's.
		{[]api.Op{form, key, large}, api.ErrForm},
		{[]api.Op{form, large, key}, api.ErrForm},
		{[]api.Op{key, form, large}, api.ErrBadKey},
		{[]api.Op{key, large, form}, api.ErrBadKey},
		{[]api.Op{large, form, key}, api.ErrTooLarge},
		{[]api.Op{large, key, form}, api.ErrTooLarge},
		{[]api.Op{put(badKey, long), form}, api.ErrBadKey},
		{[]api.Op{del(""), {Kind: api.KDel, Spelling: "a", Value: "v"}}, api.ErrBadKey},
		{[]api.Op{large, {Kind: api.KDel, Spelling: "a", Value: "v"}}, api.ErrTooLarge},
		// One alone, between others and behind them.
		{[]api.Op{ok, form, ok}, api.ErrForm},
		{[]api.Op{ok, {Kind: api.KDel, Spelling: "a", Value: "v"}}, api.ErrForm},
		{[]api.Op{ok, key, ok}, api.ErrBadKey},
		{[]api.Op{ok, large, ok}, api.ErrTooLarge},
		{append(many(49), form), api.ErrForm},
		{append(many(49), key), api.ErrBadKey},
		{append(many(49), large), api.ErrTooLarge},
	}
}

// accepted are groups.
func accepted() [][]api.Op {
	return [][]api.Op{
		{put("a", "v")},
		{del("a")},
		{put("a", "")},
		many(1), many(2), many(3), many(49), many(50),
		some(),
		slices.Repeat([]api.Op{del("\u00e9")}, 50),
		{put(strings.Repeat("a", 4096), "v"), del(strings.Repeat("b", 4096))},
		{put(strings.Repeat("\u0390", 2048), "v"), del(strings.Repeat("\u20ac", 1365) + "a")},
		{put("a", values(mostValue))},
		{put("a", values(mostValue-1)), put("b", values(mostValue)), del("a")},
		// Each length of a number of bytes.
		{put(strings.Repeat("a", 127), values(127)), put(strings.Repeat("a", 128), values(128))},
		{put("a", values(16383)), put("b", values(16384)), put("\x00", "\xff\x00")},
		{put("a\u0301"+strings.Repeat("\u0323", 40), "marks")},
	}
}

func TestCheckOfGroups(t *testing.T) {
	for _, ops := range accepted() {
		if err := Check(ops); err != api.OK {
			t.Errorf("P12.1: Check of %d ops %s: %v", len(ops), short(ops), err)
		}
	}
}

func TestCheckOfWhatIsNoGroup(t *testing.T) {
	for i, x := range refused() {
		if err := Check(x.ops); err != x.err {
			t.Errorf("P12.1: row %d: Check of %d ops %s: %v, not %v", i, len(x.ops), short(x.ops), err, x.err)
		}
	}
}

func TestCheckOfAFaultAtEachPlace(t *testing.T) {
	for _, n := range []int{1, 2, 3, 50} {
		for i := range n {
			for _, x := range []struct {
				op  api.Op
				err api.Errno
			}{{api.Op{Kind: 2, Spelling: "a"}, api.ErrForm}, {del("\xff"), api.ErrBadKey}, {put("a", values(mostValue+1)), api.ErrTooLarge}} {
				ops := many(n)
				ops[i] = x.op
				if err := Check(ops); err != x.err {
					t.Errorf("P12.1: Check with a fault at %d of %d: %v, not %v", i, n, err, x.err)
				}
			}
		}
	}
}

// wantBytes fails unless Encode makes a group to these bytes.
func wantBytes(t *testing.T, seq int64, ops []api.Op, want string) {
	t.Helper()
	if b, err := Encode(seq, ops); err != api.OK || string(b) != want {
		t.Errorf("P12.1: Encode(%d) of %d ops: %.60q, %v, not %.60q", seq, len(ops), b, err, want)
	}
}

// wantNoBytes fails unless Encode tells this error and nothing else.
func wantNoBytes(t *testing.T, seq int64, ops []api.Op, want api.Errno) {
	t.Helper()
	if b, err := Encode(seq, ops); err != want || b != nil {
		t.Errorf("P12.1: Encode(%d) of %d ops %s: %.60q, %v, not %v", seq, len(ops), short(ops), b, err, want)
	}
}

func TestEncodeByteByByte(t *testing.T) {
	wantBytes(t, 1, []api.Op{put("a", "v")}, "\x01\x00\x00\x00\x00\x00\x00\x00\x01\x01\x01a\x01v")
	wantBytes(t, 1, []api.Op{del("a")}, "\x01\x00\x00\x00\x00\x00\x00\x00\x01\x00\x01a")
	wantBytes(t, 1, []api.Op{put("a", "")}, "\x01\x00\x00\x00\x00\x00\x00\x00\x01\x01\x01a\x00")
	wantBytes(t, 0x0001020304050607, []api.Op{del("ab"), put("c", "xyz"), del("d"), put("e", "")},
		"\x07\x06\x05\x04\x03\x02\x01\x00\x04\x00\x02ab\x01\x01c\x03xyz\x00\x01d\x01\x01e\x00")
	// The spelling is written, not its form.
	wantBytes(t, 258, []api.Op{put("\u00e9", "v"), del("\u212b")},
		"\x02\x01\x00\x00\x00\x00\x00\x00\x02\x01\x02\xc3\xa9\x01v\x00\x03\xe2\x84\xab")
	wantBytes(t, 9, []api.Op{put("e\u0301", "\u00e9")}, "\x09\x00\x00\x00\x00\x00\x00\x00\x01\x01\x03e\xcc\x81\x02\xc3\xa9")
	// A length of two bytes and one of three.
	wantBytes(t, 5, []api.Op{del(strings.Repeat("k", 128)), put("a", values(16384))},
		"\x05\x00\x00\x00\x00\x00\x00\x00\x02\x00\x80\x01"+strings.Repeat("k", 128)+"\x01\x01a\x80\x80\x01"+values(16384))
	wantBytes(t, 1<<50-49, slices.Repeat([]api.Op{del("a")}, 50),
		"\xcf\xff\xff\xff\xff\xff\x03\x00\x32"+strings.Repeat("\x00\x01a", 50))
	wantBytes(t, 1<<50, []api.Op{del("a")}, "\x00\x00\x00\x00\x00\x00\x04\x00\x01\x00\x01a")
}

func TestEncodeOfGroups(t *testing.T) {
	for _, ops := range accepted() {
		for _, seq := range []int64{1, 2, 255, 256, 1 << 32, 1<<50 - 50, 1<<50 - int64(len(ops)) + 1} {
			wantBytes(t, seq, ops, group(seq, ops))
		}
	}
}

func TestEncodeOfWhatIsNoGroup(t *testing.T) {
	for _, x := range refused() {
		wantNoBytes(t, 1, x.ops, x.err)
		// Check's error stands ahead of the number's.
		for _, seq := range []int64{0, -1, 1<<50 + 1, math.MaxInt64, math.MinInt64} {
			wantNoBytes(t, seq, x.ops, x.err)
		}
	}
}

// wrongSeqs are numbers that no group of n ops may have.
func wrongSeqs(n int64) []int64 {
	return []int64{
		0, -1, -2, -n, -1 << 32, -1 << 50, math.MinInt64, math.MinInt64 + 1,
		1<<50 - n + 2, 1<<50 + 1, 1<<50 + 2, 1 << 51, 1<<62 + 1,
		math.MaxInt64 - n, math.MaxInt64 - n + 1, math.MaxInt64 - n + 2, math.MaxInt64 - 1, math.MaxInt64,
	}
}

func TestEncodeAtTheEndsOfTheNumbers(t *testing.T) {
	for n := 1; n <= 50; n++ {
		ops := many(n)
		most := 1<<50 - int64(n) + 1
		for _, seq := range []int64{1, 2, 3, most - 1, most} {
			wantBytes(t, seq, ops, group(seq, ops))
		}
		for _, seq := range wrongSeqs(int64(n)) {
			wantNoBytes(t, seq, ops, api.ErrForm)
		}
	}
}

// wantOps fails unless b is decoded to this group.
func wantOps(t *testing.T, b string, seq int64, ops []api.Op) {
	t.Helper()
	n, l, err := Decode([]byte(b))
	if err != api.OK || n != seq || !slices.Equal(l, ops) {
		t.Errorf("P12.1: Decode of %d bytes %.40q: %d, %d ops %s, %v", len(b), b, n, len(l), short(l), err)
	}
}

// wantCorrupt fails unless b is decoded to nothing.
func wantCorrupt(t *testing.T, what, b string) {
	t.Helper()
	if seq, l, err := Decode([]byte(b)); err != api.ErrCorrupt || seq != 0 || len(l) != 0 {
		t.Errorf("P12.1: %s: Decode of %.60q: %d, %s, %v", what, b, seq, short(l), err)
	}
}

// wantByWords fails unless b is decoded as the chapter's words have it.
func wantByWords(t *testing.T, what, b string) {
	t.Helper()
	seq, ops, err := decodeByWords(b)
	if n, l, got := Decode([]byte(b)); got != err || n != seq || !slices.Equal(l, ops) {
		t.Errorf("P12.1: %s: Decode of %.60q: %d, %s, %v, not %d, %s, %v", what, b, n, short(l), got, seq, short(ops), err)
	}
}

func TestDecodeOfWhatEncodeMade(t *testing.T) {
	for _, ops := range accepted() {
		for _, seq := range []int64{1, 2, 255, 256, 1<<50 - 50, 1<<50 - int64(len(ops)) + 1} {
			b, err := Encode(seq, ops)
			if err != api.OK {
				t.Fatalf("P12.1: Encode(%d) of %d ops: %v", seq, len(ops), err)
			}
			wantOps(t, string(b), seq, ops)
		}
	}
}

func TestDecodeByteByByte(t *testing.T) {
	wantOps(t, "\x01\x00\x00\x00\x00\x00\x00\x00\x01\x00\x01a", 1, []api.Op{del("a")})
	wantOps(t, "\x01\x00\x00\x00\x00\x00\x00\x00\x01\x01\x01a\x00", 1, []api.Op{put("a", "")})
	wantOps(t, "\x02\x01\x00\x00\x00\x00\x00\x00\x03\x01\x02\xc3\xa9\x01v\x00\x01b\x01\x01c\x00", 258, []api.Op{put("\u00e9", "v"), del("b"), put("c", "")})
}

func TestDecodeOfWhatIsCutOrGoesOn(t *testing.T) {
	for _, ops := range [][]api.Op{some(), many(1), many(50), {del("a")}, {put(strings.Repeat("k", 200), values(300))}} {
		b := group(7, ops)
		for n := range b {
			wantCorrupt(t, "cut", b[:n])
		}
		for c := range 256 {
			wantCorrupt(t, "with a byte behind", b+string([]byte{byte(c)}))
		}
		wantCorrupt(t, "with an op behind", b+made(many(1)))
		wantCorrupt(t, "twice", b+b)
	}
}

func TestDecodeOfNoBytesAndOfFew(t *testing.T) {
	for _, b := range [][]byte{nil, {}, make([]byte, 0, 20)} {
		if seq, l, err := Decode(b); err != api.ErrCorrupt || seq != 0 || len(l) != 0 {
			t.Errorf("P12.1: Decode of no bytes: %d, %v, %v", seq, l, err)
		}
	}
	for n := range 9 {
		wantCorrupt(t, "few bytes", strings.Repeat("\x00", n))
		wantCorrupt(t, "few bytes", strings.Repeat("\x01", n))
		wantCorrupt(t, "few bytes", strings.Repeat("\xff", n))
		wantCorrupt(t, "few bytes", number(1)[:min(n, 8)])
	}
	wantCorrupt(t, "a number alone", number(1))
	wantCorrupt(t, "no op", number(1)+count(1))
}

func TestDecodeLooksAtNoSpareRoom(t *testing.T) {
	b := []byte(group(7, some()))
	for n := range b {
		if _, l, err := Decode(b[:n]); err != api.ErrCorrupt || len(l) != 0 {
			t.Errorf("P12.1: Decode of %d bytes with spare room: %v, %v", n, l, err)
		}
	}
}

// wantChanged fails unless b is decoded by the chapter's words with each one of
// its bytes changed.
func wantChanged(t *testing.T, b string, change byte) {
	t.Helper()
	for i := range b {
		c := []byte(b)
		c[i] ^= change
		wantByWords(t, fmt.Sprintf("byte %d changed by %d", i, change), string(c))
	}
}

func TestDecodeWithEachByteChanged(t *testing.T) {
	for _, b := range []string{group(258, some()), group(1, many(3)), group(1<<50-2, many(3))} {
		for change := 1; change < 256; change++ {
			wantChanged(t, b, byte(change))
		}
	}
	b := group(9, []api.Op{put(strings.Repeat("k", 130), values(140)), del("\u00e9")})
	for _, change := range []byte{1, 2, 3, 64, 127, 128, 255} {
		wantChanged(t, b, change)
	}
}

func TestDecodeWithBytesPutInAndLeftOut(t *testing.T) {
	b := group(258, some())
	for i := range b {
		wantByWords(t, "a byte left out", b[:i]+b[i+1:])
		for _, c := range []byte{0, 1, 2, 'a', 0x7f, 0x80, 0xc3, 0xff} {
			wantByWords(t, "a byte put in", b[:i]+string([]byte{c})+b[i:])
		}
		for j := i; j <= len(b); j += 3 {
			wantByWords(t, "bytes left out", b[:i]+b[j:])
			wantByWords(t, "bytes twice", b[:j]+b[i:])
		}
	}
}

func TestDecodeOfWrongNumbersOfOps(t *testing.T) {
	ops := some()
	n := len(ops)
	for _, wrong := range []int{0, 1, n - 1, n + 1, 50, 51, 127, 128, 256 + n, 1<<32 + n, math.MaxInt} {
		wantCorrupt(t, fmt.Sprint(wrong, " ops"), number(7)+count(wrong)+made(ops))
	}
	wantCorrupt(t, "no ops", number(7)+count(0))
	wantCorrupt(t, "51 ops", group(7, many(51)))
	wantCorrupt(t, "52 ops", group(7, many(52)))
	wantCorrupt(t, "128 ops", group(7, many(128)))
	wantOps(t, group(7, many(50)), 7, many(50))
	wantCorrupt(t, "50 ops, told as 49", number(7)+count(49)+made(many(50)))
	wantCorrupt(t, "50 ops, told as 51", number(7)+count(51)+made(many(50)))
	// More bytes than needed, and more than 64 bits.
	for _, wrong := range []string{"\x86\x00", "\x86\x80\x00", "\x86\x80\x80\x80\x80\x80\x80\x80\x80\x00", "\x86\x80\x80\x80\x80\x80\x80\x80\x80\x02", "\x80\x00", "\xff\xff\xff\xff\xff\xff\xff\xff\xff\x01", "\xff\xff\xff\xff\xff\xff\xff\xff\xff\x7f", strings.Repeat("\x80", 20)} {
		wantCorrupt(t, "a number of ops that is none", number(7)+wrong+made(ops))
		wantCorrupt(t, "a number of ops that is none, and nothing", number(7)+wrong)
	}
	wantOps(t, number(7)+"\x06"+made(ops), 7, ops)
}

func TestDecodeOfKindsThatThereAreNot(t *testing.T) {
	for kind := 2; kind < 256; kind++ {
		k := string([]byte{byte(kind)})
		wantCorrupt(t, "as a del", number(7)+count(1)+k+text("a"))
		wantCorrupt(t, "as a put", number(7)+count(1)+k+text("a")+text("v"))
		wantCorrupt(t, "behind another", number(7)+count(2)+made(many(1))+k+text("a")+text(""))
		wantCorrupt(t, "ahead of another", number(7)+count(2)+k+text("a")+made(many(1)))
	}
}

func TestDecodeOfWrongTexts(t *testing.T) {
	front := number(7) + count(1)
	for what, wrong := range map[string]string{
		"a spelling cut":                 "\x00\x02a",
		"no spelling":                    "\x00",
		"a spelling's length cut":        "\x00\x80",
		"a spelling's length in two":     "\x00\x81\x00a",
		"a spelling's length in ten":     "\x00\x81\x80\x80\x80\x80\x80\x80\x80\x80\x00a",
		"a spelling's length, huge":      "\x00\xff\xff\xff\xff\xff\xff\xff\xff\xff\x01a",
		"a spelling's length, 2^63":      "\x00\x80\x80\x80\x80\x80\x80\x80\x80\x80\x01a",
		"a spelling's length, 2^63 - 1":  "\x00\xff\xff\xff\xff\xff\xff\xff\xff\x7fa",
		"a spelling's length, too great": "\x00\xff\xff\xff\xff\xff\xff\xff\xff\xff\x02a",
		"a put's spelling cut":           "\x01\x03a\x00",
		"a put's spelling's length":      "\x01\x81\x00a\x00",
		"no value":                       "\x01\x01a",
		"a value cut":                    "\x01\x01a\x02v",
		"a value's length cut":           "\x01\x01a\x80",
		"a value's length in two":        "\x01\x01a\x81\x00v",
		"no value's length in two":       "\x01\x01a\x80\x00",
		"a value's length in ten":        "\x01\x01a\x81\x80\x80\x80\x80\x80\x80\x80\x80\x00v",
		"a value's length, huge":         "\x01\x01a\xff\xff\xff\xff\xff\xff\xff\xff\xff\x01v",
		"a value's length, 2^63 - 1":     "\x01\x01a\xff\xff\xff\xff\xff\xff\xff\xff\x7fv",
		"a value's length, too great":    "\x01\x01a\xff\xff\xff\xff\xff\xff\xff\xff\xff\x02v",
		"a value too short":              "\x01\x01a\x01vw",
		"a del with a value":             "\x00\x01a\x01v",
		"a del with an empty value":      "\x00\x01a\x00",
	} {
		wantCorrupt(t, what, front+wrong)
		wantCorrupt(t, what, number(7)+count(2)+made(many(1))+wrong)
	}
	// A text that is cut with all of a later op ahead of the end.
	wantCorrupt(t, "a spelling that reaches into the next op", number(7)+count(2)+"\x00\x04a"+"\x00\x01b")
}

// isTold tells whether the bytes of ops tell all of them: a kind takes a byte,
// and a del's value has no place.
func isTold(ops []api.Op) bool {
	return !slices.ContainsFunc(ops, func(op api.Op) bool {
		return op.Kind != int(byte(op.Kind)) || op.Kind != api.KPut && op.Value != ""
	})
}

func TestDecodeOfWhatCheckRefuses(t *testing.T) {
	for i, x := range refused() {
		if isTold(x.ops) {
			wantCorrupt(t, fmt.Sprint("row ", i), group(7, x.ops))
		}
	}
	// Beside what just goes.
	wantOps(t, group(7, []api.Op{put(strings.Repeat("k", 4096), values(mostValue))}), 7, []api.Op{put(strings.Repeat("k", 4096), values(mostValue))})
	wantCorrupt(t, "a long value", number(7)+count(1)+"\x01"+text("k")+text(values(mostValue+1)))
	wantCorrupt(t, "a long key", number(7)+count(1)+"\x01"+text(strings.Repeat("k", 4097))+text("v"))
	wantCorrupt(t, "an empty key", number(7)+count(1)+"\x01"+text("")+text("v"))
	wantCorrupt(t, "an empty key, deleted", number(7)+count(1)+"\x00"+text(""))
}

func TestDecodeAtTheEndsOfTheNumbers(t *testing.T) {
	for _, n := range []int{1, 2, 3, 49, 50} {
		ops := many(n)
		most := 1<<50 - int64(n) + 1
		for _, seq := range []int64{1, 2, most - 1, most} {
			wantOps(t, group(seq, ops), seq, ops)
		}
		for _, seq := range wrongSeqs(int64(n)) {
			wantCorrupt(t, fmt.Sprintf("%d ops from %d on", n, seq), group(seq, ops))
		}
	}
}

func TestDecodeOfAnyBytes(t *testing.T) {
	good := 0
	r := rand.New(rand.NewPCG(12, 1))
	for range 20000 {
		b := ""
		for range r.IntN(25) {
			b += string([]byte{byte(r.Uint32())})
		}
		wantByWords(t, "any bytes", b)
		// Bytes behind a number, of which some are groups.
		b = number(1 + r.Int64N(256))
		for range 2 + r.IntN(12) {
			b += string([]byte{"\x00\x01\x02\x03ab\x80"[r.IntN(7)]})
		}
		wantByWords(t, "small bytes", b)
		if _, _, err := decodeByWords(b); err == api.OK {
			good++
		}
	}
	if good == 0 {
		t.Error("P12.1: none of the bytes was a group")
	}
}

// wantEntries fails unless Entries tells an entry of each op.
func wantEntries(t *testing.T, seq int64, ops []api.Op, want []api.Entry) {
	t.Helper()
	if l := Entries(seq, ops); !slices.Equal(l, want) {
		t.Errorf("P12.1: Entries(%d) of %s: %s, not %s", seq, short(ops), short(l), short(want))
	}
}

func TestEntriesOfEachOp(t *testing.T) {
	wantEntries(t, 7, []api.Op{put("\u00e9", "v"), del("\u212b"), put("c", ""), del("d"), put("e\u0301", "w"), del("\ud55c")}, []api.Entry{
		{Norm: "e\u0301", Seq: 7, Kind: api.KPut, Spelling: "\u00e9", Value: "v"},
		{Norm: "A\u030a", Seq: 8, Kind: api.KDel, Spelling: "\u212b"},
		{Norm: "c", Seq: 9, Kind: api.KPut, Spelling: "c"},
		{Norm: "d", Seq: 10, Kind: api.KDel, Spelling: "d"},
		{Norm: "e\u0301", Seq: 11, Kind: api.KPut, Spelling: "e\u0301", Value: "w"},
		{Norm: "\u1112\u1161\u11ab", Seq: 12, Kind: api.KDel, Spelling: "\ud55c"},
	})
	// The ops' order stands, though it is none of keys.
	wantEntries(t, 1, []api.Op{put("b", "1"), put("a", "2"), put("b", "3")}, []api.Entry{
		{Norm: "b", Seq: 1, Kind: api.KPut, Spelling: "b", Value: "1"},
		{Norm: "a", Seq: 2, Kind: api.KPut, Spelling: "a", Value: "2"},
		{Norm: "b", Seq: 3, Kind: api.KPut, Spelling: "b", Value: "3"},
	})
}

func TestEntriesOfLongTexts(t *testing.T) {
	key, value := strings.Repeat("\u0390", 2048), values(mostValue)
	wantEntries(t, 9, []api.Op{put(key, value), del(key)}, []api.Entry{
		{Norm: strings.Repeat("\u03b9\u0308\u0301", 2048), Seq: 9, Kind: api.KPut, Spelling: key, Value: value},
		{Norm: strings.Repeat("\u03b9\u0308\u0301", 2048), Seq: 10, Kind: api.KDel, Spelling: key},
	})
}

func TestEntriesOfManyOps(t *testing.T) {
	for n := 1; n <= 50; n++ {
		// Numbers that no group may have, and that go round, are taken, too.
		for _, seq := range append(wrongSeqs(int64(n)), 1, 2, 1<<32-1, 1<<50-int64(n)+1) {
			ops := many(n)
			var want []api.Entry
			at := uint64(seq)
			for _, op := range ops {
				want = append(want, api.Entry{Norm: op.Spelling, Seq: int64(at), Kind: op.Kind, Spelling: op.Spelling, Value: op.Value})
				at++
			}
			wantEntries(t, seq, ops, want)
		}
	}
}

func TestEntriesWhoseNumbersGoRound(t *testing.T) {
	var seqs []int64
	for _, e := range Entries(math.MaxInt64-1, many(4)) {
		seqs = append(seqs, e.Seq)
	}
	if want := []int64{math.MaxInt64 - 1, math.MaxInt64, math.MinInt64, math.MinInt64 + 1}; !slices.Equal(seqs, want) {
		t.Errorf("P12.1: the numbers of Entries: %v, not %v", seqs, want)
	}
}

func TestEntriesOfWhatIsNoGroup(t *testing.T) {
	for i, x := range refused() {
		for _, seq := range []int64{1, 0, -1, math.MaxInt64} {
			if l := Entries(seq, x.ops); l != nil {
				t.Errorf("P12.1: row %d: Entries(%d): %s", i, seq, short(l))
			}
		}
	}
}

func TestWhatIsHandedInStaysAsItIs(t *testing.T) {
	room := append(append(many(20), some()...), api.Op{Kind: 7}, del("\xff"), put("a", "v"))
	kept := slices.Clone(room)
	for i := range room {
		for j := i; j <= len(room); j++ {
			Check(room[i:j])
			Encode(1, room[i:j])
			Encode(0, room[i:j])
			Entries(1, room[i:j])
		}
	}
	if !slices.Equal(room, kept) {
		t.Error("P0.3: ops that were handed in are changed")
	}
	b := []byte(group(7, some()) + "more")
	bytesKept := bytes.Clone(b)
	for n := range b {
		Decode(b[:n])
		Decode(b[n:])
	}
	if !bytes.Equal(b, bytesKept) {
		t.Error("P0.3: bytes that were handed in are changed")
	}
}

// scribble writes into all of l, its spare room too.
func scribble[T any](l []T, with T) {
	l = l[:cap(l)]
	for i := range l {
		l[i] = with
	}
}

func TestEncodeAnswersNewMemory(t *testing.T) {
	for _, ops := range [][]api.Op{many(1), some(), many(50)} {
		want := group(7, ops)
		first, _ := Encode(7, ops)
		other, _ := Encode(7, ops)
		scribble(first, 0xee)
		wantBytes(t, 7, ops, want)
		scribble(ops, api.Op{Kind: 1, Spelling: "other", Value: "other"})
		if string(other) != want {
			t.Error("P0.3: an answer of Encode changes with another one, or with the ops")
		}
	}
}

func TestDecodeAnswersNewMemory(t *testing.T) {
	for _, ops := range [][]api.Op{many(1), some(), many(50)} {
		b := []byte(group(7, ops))
		_, first, _ := Decode(b)
		_, other, _ := Decode(b)
		scribble(first, api.Op{Kind: 1, Spelling: "other", Value: "other"})
		wantOps(t, string(b), 7, ops)
		if string(b) != group(7, ops) {
			t.Error("P0.3: who writes into an answer of Decode changes the bytes")
		}
		scribble(b, 0xee)
		if !slices.Equal(other, ops) {
			t.Error("P0.3: an answer of Decode changes with another one, or with the bytes")
		}
	}
}

func TestEntriesAnswersNewMemory(t *testing.T) {
	ops := some()
	first, other := Entries(7, ops), Entries(7, ops)
	want := slices.Clone(other)
	scribble(first, api.Entry{Norm: "other", Seq: 1, Kind: 1, Spelling: "other", Value: "other"})
	wantEntries(t, 7, ops, want)
	if !slices.Equal(ops, some()) {
		t.Error("P0.3: who writes into an answer of Entries changes the ops")
	}
	scribble(ops, del("other"))
	if !slices.Equal(other, want) {
		t.Error("P0.3: an answer of Entries changes with another one, or with the ops")
	}
}

func TestAnswersHangOnTheArgumentsAlone(t *testing.T) {
	ops := some()
	want := Entries(7, ops)
	for _, x := range refused() {
		Check(x.ops)
		Encode(0, x.ops)
		Decode([]byte("\x07"))
		Entries(9, x.ops)
		wantBytes(t, 7, ops, group(7, ops))
		wantOps(t, group(7, ops), 7, ops)
		wantEntries(t, 7, ops, want)
	}
}

func TestTheNumberIsOfEightBytesTheLowestFirst(t *testing.T) {
	for i := range 50 {
		seq := int64(1) << i
		b, err := Encode(seq, many(1))
		if err != api.OK || binary.LittleEndian.Uint64(b) != uint64(seq) {
			t.Errorf("P12.1: the bytes of %d: %.8q, %v", seq, b, err)
		}
	}
}

package block

import (
	"fmt"
	"math"
	"math/rand/v2"
	"slices"
	"strings"
	"testing"

	"incipit/api"
)

// wantSpoilt fails unless Read and Seek refuse b.
func wantSpoilt(t *testing.T, what, b string) {
	t.Helper()
	if rows, err := Read([]byte(b)); len(rows) != 0 || err != api.ErrCorrupt {
		t.Errorf("P16.2: %s: Read(%.60x): %d rows, %d", what, b, len(rows), err)
	}
	for _, key := range []string{"", "k", "\xff"} {
		if n, err := Seek([]byte(b), key); n != -1 || err != api.ErrCorrupt {
			t.Errorf("P16.2: %s: Seek(%.60x, %.20q): %d, %d", what, b, key, n, err)
		}
	}
}

// wantRows fails unless Read tells just these rows.
func wantRows(t *testing.T, what, b string, want []Row) {
	t.Helper()
	if rows, err := Read([]byte(b)); err != api.OK || !slices.Equal(rows, want) {
		t.Errorf("P16.2: %s: Read(%.60x): %.200q, %d", what, b, fmt.Sprint(rows), err)
	}
}

// wantAsModel fails unless Read and Seek take b as the model does. It tells
// whether b is a block.
func wantAsModel(t *testing.T, what, b string) bool {
	t.Helper()
	rows, ok := modelRead(b)
	if !ok {
		wantSpoilt(t, what, b)
		return false
	}
	wantRows(t, what, b, rows)
	for _, key := range []string{"", "a", "k\x00"} {
		if n, err := Seek([]byte(b), key); n != modelSeek(rows, key) || err != api.OK {
			t.Errorf("P16.2: %s: Seek(%.60x, %q): %d, %d", what, b, key, n, err)
		}
	}
	return true
}

func TestReadOfBlocks(t *testing.T) {
	for name, rows := range blocks() {
		b, _ := built(rows)
		wantRows(t, name, string(b.Bytes()), rows)
		wantRows(t, name+" by words", modelBytes(rows), rows)
	}
	great := strings.Repeat("g", 1<<20)
	rows := []Row{{great, great}, {great + "a", ""}, {great + "b", "v"}, {great + "b\x00", great}, {great + "c", ""}}
	wantRows(t, "great rows", modelBytes(rows), rows)
}

func TestReadOfMorePlacesThanTwoBytesTell(t *testing.T) {
	rows := numbered("", 4<<16+1)
	b, ok := built(rows)
	x := b.Bytes()
	if !ok || b.Size() != len(x) || string(x) != modelBytes(rows) || string(x[len(x)-4:]) != "\x01\x00\x01\x00" {
		t.Fatalf("P16.1: %d rows: Size %d of %d bytes", len(rows), b.Size(), len(x))
	}
	wantRows(t, "many rows", string(x), rows)
	for _, i := range []int{0, 1, 777, len(rows) / 2, len(rows) - 1} {
		if n, err := Seek(x, rows[i].Key); n != i || err != api.OK {
			t.Errorf("P16.2: many rows: Seek %q: %d, %d", rows[i].Key, n, err)
		}
	}
	x[len(x)-2] = 0
	wantSpoilt(t, "many rows", string(x))
}

func TestReadOfFewBytes(t *testing.T) {
	wantSpoilt(t, "no bytes", "")
	if rows, err := Read(nil); len(rows) != 0 || err != api.ErrCorrupt {
		t.Errorf("P16.2: Read(nil): %v, %d", rows, err)
	}
	// What stands in the spare room is not looked at.
	if rows, err := Read(make([]byte, 8)[:3]); len(rows) != 0 || err != api.ErrCorrupt {
		t.Errorf("P16.2: Read of three bytes with room: %v, %d", rows, err)
	}
	wantRows(t, "four bytes 0", "\x00\x00\x00\x00", nil)
	for i := range 256 {
		for size := 1; size < 4; size++ {
			wantSpoilt(t, "few bytes", strings.Repeat(string([]byte{byte(i)}), size))
		}
		for at := range 4 {
			b := make([]byte, 4)
			b[at] = byte(i)
			wantAsModel(t, "four bytes", string(b))
		}
	}
	for size := 5; size < 40; size++ {
		wantAsModel(t, "bytes 0", strings.Repeat("\x00", size))
		wantAsModel(t, "bytes 1", strings.Repeat("\x01", size))
		wantAsModel(t, "bytes 255", strings.Repeat("\xff", size))
	}
}

// smallBlocks is those of blocks whose bytes are few, by their names.
func smallBlocks() map[string]string {
	m := map[string]string{}
	for name, rows := range blocks() {
		if b := modelBytes(rows); len(b) < 130 {
			m[name] = b
		}
	}
	return m
}

func TestEachByteChanged(t *testing.T) {
	read := 0
	for name, x := range smallBlocks() {
		for at := range x {
			for c := range 256 {
				b := []byte(x)
				b[at] = byte(c)
				if wantAsModel(t, fmt.Sprint(name, ", byte ", at), string(b)) && string(b) != x {
					read++
				}
			}
		}
	}
	if read < 1000 {
		t.Errorf("only %d changed blocks are blocks", read)
	}
}

func TestTwoBytesChanged(t *testing.T) {
	r := rand.New(rand.NewPCG(16, 3))
	for name, x := range smallBlocks() {
		for range 3000 {
			b := []byte(x)
			for range 2 {
				b[r.IntN(len(b))] = []byte{0, 1, 2, 3, 4, 127, 128, 255, byte(r.IntN(256))}[r.IntN(9)]
			}
			wantAsModel(t, name+", two bytes", string(b))
		}
	}
}

func TestCutBlocksAndLongerOnes(t *testing.T) {
	for name, x := range smallBlocks() {
		for n := range x {
			// A row of nothing alone begins with the bytes of a block without rows.
			if wantAsModel(t, fmt.Sprint(name, ", cut at ", n), x[:n]) && x[:n] != "\x00\x00\x00\x00" {
				t.Errorf("P16.2: %s, cut at %d: a block", name, n)
			}
			wantAsModel(t, fmt.Sprint(name, ", from ", n), x[n:])
			wantAsModel(t, fmt.Sprint(name, ", without byte ", n), x[:n]+x[n+1:])
			for _, c := range []string{"\x00", "\x01", "\x80", "\xff", "\x00\x00\x00\x00", "\x00\x00\x00"} {
				wantAsModel(t, fmt.Sprint(name, ", more bytes at ", n), x[:n]+c+x[n:])
			}
		}
		for _, c := range []string{"\x00", "\x01", "\xff", "\x00\x00\x00\x00", "\x00\x00\x00\x01", x} {
			wantSpoilt(t, name+", bytes in front", c+x)
			// A block without rows is its own front.
			if x+c != "\x00\x00\x00\x00" {
				wantSpoilt(t, name+", bytes behind", x+c)
			}
		}
	}
	x := modelBytes(blocks()["hundreds"])
	for n := range x {
		if rows, err := Read([]byte(x[:n])); len(rows) != 0 || err != api.ErrCorrupt {
			t.Errorf("P16.2: hundreds, cut at %d: %d rows, %d", n, len(rows), err)
		}
	}
}

func TestSharesThatAreNotRight(t *testing.T) {
	a, ab := handLaid(0, "a", ""), handLaid(1, "b", "")
	wantRows(t, "shares", a+ab+ending(0), []Row{{"a", ""}, {"ab", ""}})
	for what, rows := range map[string]string{
		"less than is shared":             a + handLaid(0, "ab", ""),
		"less than is shared, by one":     handLaid(0, "abc", "") + handLaid(1, "bd", ""),
		"less in a later row":             a + ab + handLaid(1, "bc", ""),
		"more than the key ahead":         a + handLaid(2, "b", ""),
		"more, of the first row":          handLaid(1, "a", ""),
		"more, behind the empty key":      handLaid(0, "", "") + handLaid(1, "b", ""),
		"much more":                       a + handLaid(1<<40, "b", ""),
		"more than an int has":            a + handLaid(math.MinInt64, "b", ""),
		"the greatest number":             a + handLaid(-1, "b", ""),
		"more, as a key is gone":          handLaid(0, "abc", "") + handLaid(0, "b", "") + handLaid(2, "c", ""),
		"all of it and nothing":           a + handLaid(1, "", ""),
		"a front":                         handLaid(0, "ab", "") + handLaid(1, "", ""),
		"nothing of it and nothing":       a + handLaid(0, "", ""),
		"as much, but below":              handLaid(0, "ab", "") + handLaid(1, "a", ""),
		"as much, but the same":           handLaid(0, "ab", "") + handLaid(1, "b", ""),
		"the empty key twice":             handLaid(0, "", "") + handLaid(0, "", ""),
		"below":                           handLaid(0, "b", "") + handLaid(0, "a", ""),
		"below, as bytes":                 handLaid(0, "\x80", "") + handLaid(0, "\x7f", ""),
		"above only as signed bytes":      handLaid(0, "\xff", "") + handLaid(0, "\x01", ""),
		"above only as 16-bit characters": handLaid(0, "\U0001f600", "") + handLaid(0, "\uffff", ""),
	} {
		wantSpoilt(t, what, rows+ending(0))
	}
}

func TestFourthRowsThatAreNotWhole(t *testing.T) {
	four := handLaid(0, "a", "") + handLaid(1, "b", "") + handLaid(1, "c", "") + handLaid(1, "d", "")
	places := ending(0, len(four))
	wantRows(t, "a whole fifth", four+handLaid(0, "ae", "v")+places, []Row{{"a", ""}, {"ab", ""}, {"ac", ""}, {"ad", ""}, {"ae", "v"}})
	wantRows(t, "a fifth that shares nothing", four+handLaid(0, "b", "v")+places, []Row{{"a", ""}, {"ab", ""}, {"ac", ""}, {"ad", ""}, {"b", "v"}})
	wantSpoilt(t, "a fifth that shares", four+handLaid(1, "e", "v")+places)
	wantSpoilt(t, "a fifth that shares all", four+handLaid(2, "a", "v")+places)
	wantSpoilt(t, "a fifth that shares too much", four+handLaid(3, "a", "v")+places)
	for what, key := range map[string]string{"the same": "ad", "below": "ac", "a front": "a", "empty": "", "far below": "\x00", "below, but longer": "aczzz"} {
		wantSpoilt(t, "a fifth, "+what, four+handLaid(0, key, "v")+places)
	}
	eight := modelBytes(numbered("k", 8))
	eight = eight[:len(eight)-12]
	places = ending(0, strings.LastIndex(eight, "\x00\x06"), len(eight))
	wantRows(t, "a whole ninth", eight+handLaid(0, "kz", "")+places, append(numbered("k", 8), Row{"kz", ""}))
	wantSpoilt(t, "a ninth that shares", eight+handLaid(1, "z", "")+places)
}

func TestLengthsThatAreNotRight(t *testing.T) {
	for what, rows := range map[string]string{
		"others past the end":                "\x00\x02\x00a",
		"a value past the end":               "\x00\x01\x01a",
		"both together past the end":         "\x00\x02\x02abc",
		"others far past":                    "\x00\xff\xff\xff\xff\x7f\x00a",
		"a value far past":                   "\x00\x01\xff\xff\xff\xff\x7fa",
		"others of 2 to the 63rd":            "\x00\x80\x80\x80\x80\x80\x80\x80\x80\x80\x01\x00a",
		"a value of 2 to the 63rd":           "\x00\x01\x80\x80\x80\x80\x80\x80\x80\x80\x80\x01a",
		"others of 2 to the 64th less 1":     "\x00\xff\xff\xff\xff\xff\xff\xff\xff\xff\x01\x00a",
		"a value of 2 to the 64th less 1":    "\x00\x01\xff\xff\xff\xff\xff\xff\xff\xff\xff\x01a",
		"both that make 1, gone round":       "\x00\xff\xff\xff\xff\xff\xff\xff\xff\xff\x01\x02a",
		"both that make 1, gone round (2)":   "\x00\x02\xff\xff\xff\xff\xff\xff\xff\xff\xff\x01a",
		"both of 2 to the 63rd":              "\x00\x80\x80\x80\x80\x80\x80\x80\x80\x80\x01\x80\x80\x80\x80\x80\x80\x80\x80\x80\x01",
		"others of 2 to the 63rd less 1":     "\x00\xff\xff\xff\xff\xff\xff\xff\xff\x7f\x02a",
		"a value of 2 to the 63rd less 1":    "\x00\x02\xff\xff\xff\xff\xff\xff\xff\xff\x7fa",
		"a share beyond 64 bits":             "\x80\x80\x80\x80\x80\x80\x80\x80\x80\x02\x01\x00a",
		"a share in two bytes":               "\x80\x00\x01\x00a",
		"others in two bytes":                "\x00\x81\x00\x00a",
		"a value's length in two bytes":      "\x00\x01\x80\x00a",
		"a value's length of 1 in two bytes": "\x00\x01\x81\x00av",
		"others in three bytes":              "\x00\x81\x80\x00\x00a",
		"one length alone":                   "\x00",
		"two lengths alone":                  "\x00\x00",
		"two lengths and a half":             "\x00\x01\x80",
		"a share alone, cut":                 "\x80",
		"others, cut":                        "\x00\x80",
		"a byte left":                        "\x00\x01\x00ab",
		"a byte left that is 0":              "\x00\x01\x00a\x00",
		"two bytes left that are 0":          "\x00\x01\x00a\x00\x00",
	} {
		wantSpoilt(t, what, rows+ending(0))
		wantAsModel(t, what+", without places", rows+ending())
		wantSpoilt(t, what+", behind another", handLaid(0, "", "x")+rows+ending(0))
	}
	wantRows(t, "lengths that are right", "\x00\x01\x00a"+ending(0), []Row{{"a", ""}})
}

func TestPlacesThatAreNotRight(t *testing.T) {
	for n := range 14 {
		rows := numbered("k", n)
		x := modelBytes(rows)
		many := (n + 3) / 4
		body := x[:len(x)-4-4*many]
		var places []int
		at := 0
		for i := range rows {
			if i%4 == 0 {
				places = append(places, at)
			}
			ahead := ""
			if i > 0 {
				ahead = rows[i-1].Key
			}
			at += len(laidRow(i, ahead, rows[i]))
		}
		wantRows(t, "places", body+ending(places...), rows)
		wantSpoilt(t, "a place more", body+ending(append(slices.Clone(places), len(body))...))
		wantSpoilt(t, "a place 0 more", body+ending(append([]int{0}, places...)...))
		for i := range places {
			wantSpoilt(t, "a place less", body+ending(slices.Delete(slices.Clone(places), i, i+1)...))
			for _, by := range []int{-1, 1, 2, 4, 5, 256, 1 << 16, 1 << 24, 1 << 31, -places[i] - 1, len(body)} {
				l := slices.Clone(places)
				l[i] += by
				wantSpoilt(t, fmt.Sprint(n, " rows: the place ", i, " by ", by), body+ending(l...))
			}
			for j := range i {
				l := slices.Clone(places)
				l[i], l[j] = l[j], l[i]
				wantSpoilt(t, "places in another order", body+ending(l...))
				l[i] = l[j]
				wantSpoilt(t, "one place twice", body+ending(l...))
			}
		}
	}
}

func TestHowManyPlacesIsNotRight(t *testing.T) {
	for _, rows := range [][]Row{nil, numbered("k", 1), numbered("k", 4), numbered("k", 5), numbered("k", 13), {{"", ""}}} {
		x := modelBytes(rows)
		places := (len(rows) + 3) / 4
		for _, many := range []int{
			0, 1, 2, 3, 4, 5, 6, len(x) / 4, len(x)/4 - 1, len(x)/4 + 1, len(x), 255, 256, 1 << 16, 1<<24 - 1, 1 << 29, 1<<30 - 1, 1 << 30,
			1<<30 + 1, 1<<31 - 1, 1 << 31, 1<<31 + 1, 3 << 30, 1<<32 - 2, 1<<32 - 1, places + 1<<30, places + 1<<31,
		} {
			if many == places {
				continue
			}
			wantSpoilt(t, fmt.Sprint(len(rows), " rows: as ", many, " places"), x[:len(x)-4]+endingWith(many))
		}
	}
	// The places are held for a row, and a row for a place.
	wantSpoilt(t, "only places", ending(0))
	wantSpoilt(t, "only places", ending(0, 0))
	wantSpoilt(t, "a row without its place", handLaid(0, "a", "")+ending())
	wantRows(t, "a row of only zeros", "\x00\x00\x00"+ending(0), []Row{{"", ""}})
}

func TestReadOfAnyBytes(t *testing.T) {
	r := rand.New(rand.NewPCG(16, 4))
	for size := range 120 {
		for range 60 {
			b := make([]byte, size)
			for i := range b {
				b[i] = byte(r.IntN(256))
				if r.IntN(3) > 0 {
					b[i] %= 4
				}
			}
			wantAsModel(t, "any bytes", string(b))
			wantAsModel(t, "any bytes and an end", string(b)+ending(0))
		}
	}
	big := make([]byte, 1<<20)
	for i := range big {
		big[i] = byte(r.IntN(256))
	}
	wantSpoilt(t, "many bytes", string(big))
	wantSpoilt(t, "many bytes 0", string(make([]byte, 1<<20)))
}

// loose is a block by hand of any rows: many of them are laid right.
func loose(r *rand.Rand) string {
	b, ahead := "", ""
	var places []int
	for n := range r.IntN(12) {
		key := string([]byte{byte('a' + n/3), byte('a' + r.IntN(3))})[:1+r.IntN(2)]
		share := 0
		if n%4 != 0 {
			share = shareOf(ahead, key)
		} else {
			places = append(places, len(b))
		}
		if share > 0 && r.IntN(12) == 0 {
			share--
		}
		b, ahead = b+handLaid(share, key[share:], strings.Repeat("v", r.IntN(3))), key
	}
	return b + ending(places...)
}

func TestReadOfLooseBlocks(t *testing.T) {
	r := rand.New(rand.NewPCG(16, 5))
	met := map[bool]int{}
	for range 30000 {
		met[wantAsModel(t, "a loose block", loose(r))]++
	}
	if met[true] < 1000 || met[false] < 1000 {
		t.Errorf("only %d are blocks and %d not", met[true], met[false])
	}
}

func TestWhatIsHandedInIsLeft(t *testing.T) {
	for name, x := range smallBlocks() {
		for _, b := range []string{x, x[:len(x)-1], x + "\x00", "\x01" + x} {
			room := []byte(b + "spare room")
			rows, err := Read(room[:len(b)])
			n, err2 := Seek(room[:len(b)], "k")
			if string(room) != b+"spare room" {
				t.Errorf("P0.3: %s: Read or Seek changes what it is handed", name)
			}
			want, _ := modelRead(b)
			fill(room, 0xa5)
			if !slices.Equal(rows, want) || err != err2 || err == api.OK && n != modelSeek(want, "k") {
				t.Errorf("P0.3: %s: Read keeps what it is handed: %.60q", name, fmt.Sprint(rows))
			}
		}
	}
}

func TestReadTellsNewMemory(t *testing.T) {
	for name, rows := range blocks() {
		x := []byte(modelBytes(rows))
		first, _ := Read(x)
		second, _ := Read(x)
		room := first[:cap(first)]
		for i := range room {
			room[i] = Row{"other", "other"}
		}
		if third, _ := Read(x); !slices.Equal(second, rows) || !slices.Equal(third, rows) {
			t.Errorf("P0.3: %s: two answers share memory", name)
		}
	}
}

package block

import (
	"math/rand/v2"
	"strings"
	"testing"

	"incipit/api"
)

// modelSeek is where the first row stands whose key is not below key, of rows
// looked at one by one.
func modelSeek(rows []Row, key string) int {
	n := 0
	for _, r := range rows {
		if strings.Compare(r.Key, key) < 0 {
			n++
		}
	}
	return n
}

// keysBeside is keys that are rows' own, and those beside them.
func keysBeside(rows []Row) []string {
	keys := []string{"", "\x00", "\xff\xff\xff\xff", "k", "key00", strings.Repeat("p", 128), strings.Repeat("p", 301), "\u00e9", "e\u0301"}
	for i, r := range rows {
		keys = append(keys, r.Key, r.Key+"\x00", r.Key+"\xff", r.Key+"a")
		if r.Key == "" {
			continue
		}
		front, last := r.Key[:len(r.Key)-1], r.Key[len(r.Key)-1]
		keys = append(keys, front, r.Key[:len(r.Key)/2], front+string([]byte{last + 1}), front+string([]byte{last - 1}), front+string([]byte{last - 1, 255}))
		if i > 0 {
			// Where it leaves the key ahead.
			keys = append(keys, r.Key[:min(len(r.Key), shareOf(r.Key, rows[i-1].Key)+1)])
		}
	}
	return keys
}

func TestSeek(t *testing.T) {
	for name, rows := range blocks() {
		x := []byte(modelBytes(rows))
		if len(x) > 8000 {
			continue
		}
		for _, key := range keysBeside(rows) {
			if n, err := Seek(x, key); n != modelSeek(rows, key) || err != api.OK {
				t.Fatalf("P16.2: %s: Seek %.40q: %d, %d", name, key, n, err)
			}
		}
	}
}

func TestSeekOfKeysThatAreThere(t *testing.T) {
	for name, rows := range blocks() {
		x := []byte(modelBytes(rows))
		for i, r := range rows {
			if n, err := Seek(x, r.Key); n != i || err != api.OK {
				t.Errorf("P16.2: %s: Seek %.40q: %d, not %d", name, r.Key, n, i)
			}
			if n, err := Seek(x, r.Key+"\x00"); n != i+1 && (i+1 == len(rows) || rows[i+1].Key != r.Key+"\x00") || err != api.OK {
				t.Errorf("P16.2: %s: Seek %.40q and a byte: %d, not %d", name, r.Key, n, i+1)
			}
		}
	}
}

func TestSeekAheadOfAllAndBehindAll(t *testing.T) {
	for n := range 20 {
		x := []byte(modelBytes(numbered("k", n)))
		for key, want := range map[string]int{"": 0, "j": 0, "k": 0, "k0000": 0, "k00000": 0, "k1": n, "l": n, "\xff": n, strings.Repeat("k", 5000): n} {
			if got, err := Seek(x, key); got != want || err != api.OK {
				t.Errorf("P16.2: %d rows: Seek %.40q: %d, %d", n, key, got, err)
			}
		}
	}
	for _, key := range []string{"", "a", "\xff"} {
		if n, err := Seek([]byte{0, 0, 0, 0}, key); n != 0 || err != api.OK {
			t.Errorf("P16.2: Seek %q where there is no row: %d, %d", key, n, err)
		}
		for _, b := range [][]byte{nil, {}, {0}, {0, 0}, {0, 0, 0}, {0, 0, 0, 0, 0}, {1, 0, 0, 0}, {255, 255, 255, 255}} {
			if n, err := Seek(b, key); n != -1 || err != api.ErrCorrupt {
				t.Errorf("P16.2: Seek(%x, %q): %d, %d", b, key, n, err)
			}
		}
	}
}

func TestSeekByBytes(t *testing.T) {
	r := rand.New(rand.NewPCG(16, 6))
	rows := keyed(anyKeys(r, 300)...)
	x := []byte(modelBytes(rows))
	for _, key := range append(anyKeys(r, 2000), "\x7f", "\x80", "\uffff", "\U0001f600") {
		if n, err := Seek(x, key); n != modelSeek(rows, key) || err != api.OK {
			t.Fatalf("P16.2: Seek %q: %d, not %d", key, n, modelSeek(rows, key))
		}
	}
}

func TestSeekWhereAFaultStandsBehindTheRow(t *testing.T) {
	rows := numbered("k", 40)
	x := modelBytes(rows)
	for what, b := range map[string]string{
		"the last place":       x[:len(x)-8] + "\x00\x00\x00\x00" + x[len(x)-4:],
		"how many places":      x[:len(x)-4] + "\x09\x00\x00\x00",
		"the last row's share": x[:len(x)-4*11-len(laidRow(39, rows[38].Key, rows[39]))] + "\x00" + x[len(x)-4*11-len(laidRow(39, rows[38].Key, rows[39]))+1:],
		"cut":                  x[:len(x)-1],
	} {
		for _, r := range append(rows, Row{"", ""}, Row{"z", ""}) {
			if n, err := Seek([]byte(b), r.Key); n != -1 || err != api.ErrCorrupt {
				t.Errorf("P16.2: %s: Seek %q: %d, %d", what, r.Key, n, err)
			}
		}
	}
}

package edit

import (
	"fmt"
	"math/rand/v2"
	"slices"
	"testing"

	"incipit/api"
)

// wantBytes fails unless Encode makes e to these bytes, and Decode e of them.
func wantBytes(t *testing.T, e api.Edit, want string) {
	t.Helper()
	b, err := Encode(e)
	if err != api.OK || string(b) != want {
		t.Errorf("P19.1: Encode of %s: %.60q, %v, not %.60q", short(e), b, err, want)
	}
	wantEdit(t, want, e)
}

// wantEdit fails unless b is decoded to e.
func wantEdit(t *testing.T, b string, e api.Edit) {
	t.Helper()
	if x, err := Decode([]byte(b)); err != api.OK || !isSame(x, e) {
		t.Errorf("P19.1: Decode of %d bytes %.40q: %s, %v, not %s", len(b), b, short(x), err, short(e))
	}
}

func TestEncodeByteByByte(t *testing.T) {
	wantBytes(t, api.Edit{}, "\x00\x00\x00\x00\x00")
	wantBytes(t, api.Edit{Next: 1, Log: 2, Last: 300}, "\x01\x02\xac\x02\x00\x00")
	wantBytes(t, api.Edit{Adds: []api.File{{Num: 5, Level: 4, Size: 130, Small: "a", Great: "bc"}}}, "\x00\x00\x00\x01\x05\x04\x82\x01\x01a\x02bc\x00")
	wantBytes(t, api.Edit{Dels: []int64{7, 128}}, "\x00\x00\x00\x00\x02\x07\x80\x01")
	wantBytes(t, api.Edit{Next: 9, Adds: []api.File{{Num: 1}, {Num: 2, Great: "\xff"}}, Dels: []int64{1 << 50}},
		"\x09\x00\x00\x02\x01\x00\x00\x00\x00\x02\x00\x00\x00\x01\xff\x01\x80\x80\x80\x80\x80\x80\x80\x02")
}

func TestEncodeAndDecode(t *testing.T) {
	for _, e := range accepted() {
		wantBytes(t, e, laid(e))
		b, err := Encode(e)
		if err != api.OK || len(b) == 0 {
			t.Errorf("P19.1: Encode of %s: %d bytes, %v", short(e), len(b), err)
		}
		x, err := Decode(b)
		if err != api.OK || !isSame(x, e) {
			t.Errorf("P19.1: %s comes back as %s, %v", short(e), short(x), err)
		}
		again, err := Encode(x)
		if err != api.OK || string(again) != string(b) {
			t.Errorf("P19.1: Encode of what Decode told of %s: %v, other bytes", short(e), err)
		}
	}
}

func TestEncodeOfEachListLength(t *testing.T) {
	for n := range 201 {
		wantBytes(t, api.Edit{Adds: files(n)}, laid(api.Edit{Adds: files(n)}))
		wantBytes(t, api.Edit{Dels: nums(n)}, laid(api.Edit{Dels: nums(n)}))
		e := api.Edit{Next: 1, Adds: files(n), Dels: nums(200 - n)}
		wantBytes(t, e, laid(e))
	}
}

func TestEncodeOfEachFileAtEachPlace(t *testing.T) {
	for _, n := range []int{1, 2, 3, 200} {
		for _, at := range []int{0, n / 2, n - 1} {
			for _, f := range rightFiles() {
				e := api.Edit{Next: 5, Adds: files(n), Dels: nums(2)}
				e.Adds[at] = f
				wantBytes(t, e, laid(e))
			}
		}
	}
}

func TestEncodeOfWhatMayNotBe(t *testing.T) {
	for _, x := range refused() {
		if b, err := Encode(x.e); err != api.ErrForm || b != nil {
			t.Errorf("P19.1: %s: Encode of %s: %.40q, %v", x.what, short(x.e), b, err)
		}
	}
}

func TestEncodeTakesNilAsEmpty(t *testing.T) {
	want, _ := Encode(api.Edit{Next: 4})
	for _, e := range []api.Edit{{Next: 4, Adds: []api.File{}}, {Next: 4, Dels: []int64{}}, {Next: 4, Adds: make([]api.File, 0, 8), Dels: make([]int64, 0, 8)}} {
		if b, err := Encode(e); err != api.OK || string(b) != string(want) {
			t.Errorf("P0.4: Encode of empty lists: %q, %v, not %q", b, err, want)
		}
	}
}

// neighbours are edits that are alike but for one thing each.
func neighbours() []api.Edit {
	a := api.File{Num: 1, Level: 2, Size: 3, Small: "a", Great: "bc"}
	b := api.File{Num: 2, Level: 1, Size: 3, Small: "a", Great: "bc"}
	l := []api.Edit{
		{Next: 1}, {Log: 1}, {Last: 1}, {Next: 1, Log: 1}, {Next: 129}, {Next: 257},
		{Next: 1, Log: 2, Last: 3}, {Next: 2, Log: 1, Last: 3}, {Next: 1, Log: 3, Last: 2}, {Next: 3, Log: 2, Last: 1},
	}
	for _, adds := range [][]api.File{
		{a}, {b}, {a, b}, {b, a}, {a, a}, {b, b}, {a, a, b}, {a, b, a}, {b, a, a},
		{{Num: 3, Level: 2, Size: 1, Small: "a", Great: "bc"}}, {{Num: 1, Level: 3, Size: 2, Small: "a", Great: "bc"}},
		{{Num: 1, Level: 2, Size: 3, Small: "ab", Great: "c"}}, {{Num: 1, Level: 2, Size: 3, Great: "abc"}},
		{{Num: 1, Level: 2, Size: 3, Small: "a", Great: "bc\x00"}}, {{Num: 1, Level: 2, Size: 3, Small: "\x00a", Great: "bc"}},
		{{Num: 1, Level: 2, Size: 3, Small: "A", Great: "bc"}}, {{Num: 1, Level: 2, Size: 3, Small: "a", Great: "bC"}},
	} {
		l = append(l, api.Edit{Adds: adds}, api.Edit{Adds: adds, Dels: []int64{1}})
	}
	for _, dels := range [][]int64{{1}, {2}, {1, 2}, {2, 1}, {1, 1}, {2, 2}, {1, 1, 2}, {1, 2, 1}, {2, 1, 1}, {12}, {1 << 7}, {1 << 14}} {
		l = append(l, api.Edit{Dels: dels})
	}
	return l
}

func TestOtherEditsAreOtherBytes(t *testing.T) {
	all := slices.Concat(accepted(), neighbours())
	at := map[string]int{}
	for i, e := range all {
		b, err := Encode(e)
		if err != api.OK {
			t.Fatalf("P19.1: Encode of %s: %v", short(e), err)
		}
		if j, there := at[string(b)]; there && !isSame(all[j], e) {
			t.Errorf("P19.1: %s and %s come to the same bytes", short(all[j]), short(e))
		}
		at[string(b)] = i
		if again, err := Encode(copyOf(e)); err != api.OK || string(again) != string(b) {
			t.Errorf("P19.1: %s comes to other bytes the second time, %v", short(e), err)
		}
		wantEdit(t, string(b), e)
	}
}

// anyNumber is a number from least to most, of any length in bits.
func anyNumber(r *rand.Rand, least, most int64) int64 {
	return least + r.Int64N(min(most-least+1, 1<<r.IntN(51)))
}

// anyText is a text of any bytes.
func anyText(r *rand.Rand) string {
	b := make([]byte, r.IntN(1+1<<r.IntN(9)))
	for i := range b {
		b[i] = byte(r.Uint32() >> r.IntN(8))
	}
	return string(b)
}

// anyEdit is an edit that may be.
func anyEdit(r *rand.Rand) api.Edit {
	e := api.Edit{Next: anyNumber(r, 0, mostNum), Log: anyNumber(r, 0, mostNum), Last: anyNumber(r, 0, mostNum)}
	for range r.IntN(1 + r.IntN(6)) {
		f := api.File{Num: anyNumber(r, 1, mostNum), Level: r.IntN(5), Size: int(anyNumber(r, 0, 1<<24))}
		f.Small, f.Great = anyText(r), anyText(r)
		if f.Small > f.Great {
			f.Small, f.Great = f.Great, f.Small
		}
		e.Adds = append(e.Adds, f)
	}
	for range r.IntN(1 + r.IntN(6)) {
		e.Dels = append(e.Dels, anyNumber(r, 1, mostNum))
	}
	return e
}

func TestEncodeAndDecodeOfAnyEdits(t *testing.T) {
	r := rand.New(rand.NewPCG(19, 1))
	for i := range 5000 {
		e := anyEdit(r)
		wantCheck(t, fmt.Sprint("any edit ", i), e, api.OK)
		wantBytes(t, e, laid(e))
	}
}

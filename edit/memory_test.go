package edit

import (
	"bytes"
	"slices"
	"testing"

	"incipit/api"
)

// scribble writes into all of l, its spare room too.
func scribble[T any](l []T, with T) {
	l = l[:cap(l)]
	for i := range l {
		l[i] = with
	}
}

// otherFile is what is written into a list of files.
var otherFile = api.File{Num: 77, Level: 3, Size: 77, Small: "other", Great: "other"}

// scribbleEdit writes into both lists of e, their spare room too.
func scribbleEdit(e api.Edit) {
	scribble(e.Adds, otherFile)
	scribble(e.Dels, 77)
}

func TestWhatIsHandedInStaysAsItIs(t *testing.T) {
	adds := append(append(files(20), api.File{Num: -1}), files(3)...)
	dels := append(append(nums(20), -1), nums(3)...)
	keptAdds, keptDels := slices.Clone(adds), slices.Clone(dels)
	for i := range adds {
		for j := i; j <= len(adds); j++ {
			e := api.Edit{Next: 1, Adds: adds[i:j], Dels: dels[i:j]}
			Check(e)
			Encode(e)
			Encode(api.Edit{Adds: adds[i:j]})
			Encode(api.Edit{Dels: dels[i:j]})
		}
	}
	if !slices.Equal(adds, keptAdds) || !slices.Equal(dels, keptDels) {
		t.Error("P0.3: lists that were handed in are changed")
	}
	b := []byte(laid(some()) + "more")
	kept := bytes.Clone(b)
	for n := range b {
		Decode(b[:n])
		Decode(b[n:])
	}
	if !bytes.Equal(b, kept) {
		t.Error("P0.3: bytes that were handed in are changed")
	}
}

func TestEncodeAnswersNewMemory(t *testing.T) {
	for _, e := range []api.Edit{{}, some(), {Adds: files(200), Dels: nums(200)}} {
		want := laid(e)
		first, _ := Encode(e)
		other, _ := Encode(e)
		scribble(first, 0xee)
		wantBytes(t, e, want)
		scribbleEdit(e)
		if string(other) != want {
			t.Error("P0.3: an answer of Encode changes with another one, or with the edit")
		}
	}
}

func TestDecodeAnswersNewMemory(t *testing.T) {
	for _, e := range []api.Edit{{}, some(), {Adds: files(200), Dels: nums(200)}, {Adds: files(3)}, {Dels: nums(5)}} {
		b := []byte(laid(e))
		first, _ := Decode(b)
		other, _ := Decode(b)
		scribbleEdit(first)
		wantEdit(t, string(b), e)
		if string(b) != laid(e) {
			t.Error("P0.3: who writes into an answer of Decode changes the bytes")
		}
		scribble(b, 0xee)
		if !isSame(other, e) {
			t.Error("P0.3: an answer of Decode changes with another one, or with the bytes")
		}
	}
}

func TestAnswersHangOnTheArgumentsAlone(t *testing.T) {
	e := some()
	want := laid(e)
	for _, x := range refused() {
		Check(x.e)
		Encode(x.e)
		Decode([]byte(laid(x.e)))
		wantCheck(t, "behind "+x.what, e, api.OK)
		wantBytes(t, e, want)
	}
	// A list that is changed is told as it is then.
	b, _ := Encode(e)
	e.Adds[0].Num, e.Dels[0] = 6, 9
	wantBytes(t, e, laid(e))
	if string(b) != want {
		t.Error("P0.5: an answer of Encode changes with the edit")
	}
	e.Adds[0].Num = 0
	wantCheck(t, "a list that was changed", e, api.ErrForm)
}

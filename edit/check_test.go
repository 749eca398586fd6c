package edit

import (
	"fmt"
	"math"
	"testing"

	"incipit/api"
)

// wantCheck fails unless Check of e is answered so.
func wantCheck(t *testing.T, what string, e api.Edit, want api.Errno) {
	t.Helper()
	if err := Check(e); err != want {
		t.Errorf("P19.1: %s: Check of %s: %v, not %v", what, short(e), err, want)
	}
}

// wanted is what Check answers of what may be, and of what may not.
func wanted(ok bool) api.Errno {
	if ok {
		return api.OK
	}
	return api.ErrForm
}

func TestCheckOfNothing(t *testing.T) {
	wantCheck(t, "a zero edit", api.Edit{}, api.OK)
	wantCheck(t, "empty lists", api.Edit{Adds: []api.File{}, Dels: []int64{}}, api.OK)
	// What stands in the spare room is not looked at.
	wantCheck(t, "empty lists with spare room", api.Edit{Adds: make([]api.File, 0, 9), Dels: make([]int64, 0, 9)}, api.OK)
	wantCheck(t, "lists with spare room", api.Edit{Adds: append(files(3), api.File{})[:3], Dels: append(nums(3), -1)[:3]}, api.OK)
}

func TestCheckOfEditsThatMayBe(t *testing.T) {
	for i, e := range accepted() {
		wantCheck(t, fmt.Sprint("row ", i), e, api.OK)
	}
}

func TestCheckOfEditsThatMayNotBe(t *testing.T) {
	for _, x := range refused() {
		wantCheck(t, x.what, x.e, api.ErrForm)
	}
}

func TestCheckOfTheThreeNumbers(t *testing.T) {
	for _, x := range []struct {
		n  int64
		ok bool
	}{
		{math.MinInt64, false}, {math.MinInt64 + 1, false}, {-1, false}, {0, true}, {1, true}, {2, true},
		{1<<50 - 1, true}, {1 << 50, true}, {1<<50 + 1, false}, {math.MaxInt64 - 1, false}, {math.MaxInt64, false},
	} {
		for _, e := range []api.Edit{{}, some(), {Next: 1, Log: 1, Last: 1}, {Next: 1 << 50, Log: 1 << 50, Last: 1 << 50}} {
			next, log, last := e, e, e
			next.Next, log.Log, last.Last = x.n, x.n, x.n
			wantCheck(t, fmt.Sprint("Next ", x.n), next, wanted(x.ok))
			wantCheck(t, fmt.Sprint("Log ", x.n), log, wanted(x.ok))
			wantCheck(t, fmt.Sprint("Last ", x.n), last, wanted(x.ok))
		}
	}
}

func TestCheckOfHowManyThereAre(t *testing.T) {
	for _, n := range []int{0, 1, 2, 127, 128, 199, 200, 201, 202, 255, 256, 257, 400} {
		wantCheck(t, fmt.Sprint(n, " Adds"), api.Edit{Adds: files(n)}, wanted(n <= 200))
		wantCheck(t, fmt.Sprint(n, " Dels"), api.Edit{Dels: nums(n)}, wanted(n <= 200))
		wantCheck(t, fmt.Sprint(n, " Adds and 200 Dels"), api.Edit{Adds: files(n), Dels: nums(200)}, wanted(n <= 200))
		wantCheck(t, fmt.Sprint(n, " Dels and 200 Adds"), api.Edit{Adds: files(200), Dels: nums(n)}, wanted(n <= 200))
	}
}

// wantFile fails unless Check of an edit is answered so that adds f, alone, and
// ahead of, between and behind others.
func wantFile(t *testing.T, f api.File, want api.Errno) {
	t.Helper()
	for _, n := range []int{1, 2, 3, 200} {
		for _, at := range []int{0, n / 2, n - 1} {
			e := api.Edit{Next: 5, Adds: files(n), Dels: nums(3)}
			e.Adds[at] = f
			wantCheck(t, fmt.Sprintf("%s at %d of %d", short(f), at, n), e, want)
		}
	}
}

func TestCheckOfFiles(t *testing.T) {
	for _, f := range rightFiles() {
		wantFile(t, f, api.OK)
	}
	for _, f := range wrongFiles() {
		wantFile(t, f, api.ErrForm)
	}
	wantFile(t, api.File{Num: 1}, api.OK)
	wantFile(t, api.File{}, api.ErrForm)
}

func TestCheckOfDels(t *testing.T) {
	for _, n := range []int{1, 2, 3, 200} {
		for _, at := range []int{0, n / 2, n - 1} {
			e := api.Edit{Next: 5, Adds: files(3), Dels: nums(n)}
			for _, num := range []int64{1, 2, 1<<50 - 1, 1 << 50} {
				e.Dels[at] = num
				wantCheck(t, fmt.Sprintf("%d at %d of %d", num, at, n), e, api.OK)
			}
			for _, num := range wrongNums() {
				e.Dels[at] = num
				wantCheck(t, fmt.Sprintf("%d at %d of %d", num, at, n), e, api.ErrForm)
			}
		}
	}
}

func TestCheckOfWhatNoTwoTablesMayShare(t *testing.T) {
	// That is version's business: Check looks at each by itself.
	wantCheck(t, "a Num twice", api.Edit{Adds: []api.File{{Num: 1}, {Num: 1}}}, api.OK)
	wantCheck(t, "a Del twice", api.Edit{Dels: []int64{1, 1}}, api.OK)
	wantCheck(t, "a Num that is not below Next", api.Edit{Next: 1, Log: 9, Adds: []api.File{{Num: 9}}, Dels: []int64{8}}, api.OK)
	wantCheck(t, "one span", api.Edit{Adds: []api.File{{Num: 1, Level: 1, Small: "a", Great: "c"}, {Num: 2, Level: 1, Small: "b", Great: "d"}}}, api.OK)
}

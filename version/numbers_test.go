package version

import (
	"fmt"
	"math"
	"testing"

	"incipit/api"
)

// mostNum is the greatest number of an edit.
const mostNum = 1 << 50

// standing is an edit that makes a version with all three numbers, and tables at
// most levels.
func standing() api.Edit {
	return api.Edit{Next: 100, Log: 50, Last: 70, Adds: []api.File{
		file(9, 0, "a", "m"), file(12, 0, "b", "c"), file(30, 0, "b", "c"),
		file(40, 1, "a", "c"), file(41, 1, "k", "m"), file(42, 1, "e", "f"),
		file(20, 2, "", "\xff"), file(99, 4, "b", "b"),
	}}
}

func TestNew(t *testing.T) {
	wantLike(t, "New", New(), newModel())
	wantLike(t, "a zero Version", &Version{}, newModel())
	v := New()
	if len(v.All()) != 0 || v.Next() != 1 || v.Log() != 0 || v.Last() != 0 || len(v.Edit().Adds)+len(v.Edit().Dels) != 0 {
		t.Errorf("P20.1: New tells %s", shown(v.Edit()))
	}
}

func TestVersionsAreApart(t *testing.T) {
	p, q := newPair(), newPair()
	p.ok(t, "one version", standing())
	wantLike(t, "another version", q.v, q.m)
	q.ok(t, "another version", api.Edit{Next: 7, Adds: []api.File{file(6, 1, "a", "z")}})
	wantLike(t, "one version", p.v, p.m)
}

func TestApplyOfNothing(t *testing.T) {
	for _, e := range []api.Edit{{}, {Adds: []api.File{}, Dels: []int64{}}, {Adds: make([]api.File, 0, 9), Dels: make([]int64, 0, 9)}} {
		p := newPair()
		p.ok(t, "nothing, to a New one", e)
		p.ok(t, "what stands", standing())
		p.ok(t, "nothing", e)
		p.ok(t, "nothing again", e)
	}
}

func TestEachNumberAlone(t *testing.T) {
	for _, x := range []struct {
		n  int64
		ok bool
	}{
		{0, true}, {1, false}, {49, false}, {50, true}, {51, true}, {52, true}, {98, true}, {99, true},
		{100, false}, {101, false}, {mostNum, false}, {-1, false}, {-50, false}, {math.MinInt64, false}, {math.MaxInt64, false},
	} {
		made(t, standing()).answered(t, fmt.Sprint("Log ", x.n), api.Edit{Log: x.n}, x.ok)
	}
	for _, x := range []struct {
		n  int64
		ok bool
	}{
		{0, true}, {1, false}, {50, false}, {51, false}, {98, false}, {99, false}, {100, true}, {101, true},
		{mostNum - 1, true}, {mostNum, true}, {mostNum + 1, false}, {-1, false}, {-100, false}, {math.MinInt64, false}, {math.MaxInt64, false},
	} {
		made(t, standing()).answered(t, fmt.Sprint("Next ", x.n), api.Edit{Next: x.n}, x.ok)
	}
	for _, x := range []struct {
		n  int64
		ok bool
	}{
		{0, true}, {1, false}, {68, false}, {69, false}, {70, true}, {71, true}, {99, true}, {100, true}, {101, true},
		{mostNum, true}, {mostNum + 1, false}, {-1, false}, {-70, false}, {math.MinInt64, false}, {math.MaxInt64, false},
	} {
		made(t, standing()).answered(t, fmt.Sprint("Last ", x.n), api.Edit{Last: x.n}, x.ok)
	}
}

func TestEachNumberOfANewOne(t *testing.T) {
	newPair().ok(t, "Next 1", api.Edit{Next: 1})
	newPair().ok(t, "Next 2", api.Edit{Next: 2})
	newPair().ok(t, "Last 1", api.Edit{Last: 1})
	newPair().refused(t, "Log 1", api.Edit{Log: 1})
	newPair().refused(t, "Log 1, Next 1", api.Edit{Log: 1, Next: 1})
	newPair().ok(t, "Log 1, Next 2", api.Edit{Log: 1, Next: 2})
	newPair().ok(t, "the greatest", api.Edit{Next: mostNum, Log: mostNum - 1, Last: mostNum, Adds: []api.File{file(mostNum-1, 1, "a", "b")}})
	newPair().refused(t, "Log at the greatest", api.Edit{Next: mostNum, Log: mostNum})
	newPair().refused(t, "a table at the greatest", api.Edit{Next: mostNum, Adds: []api.File{file(mostNum, 1, "a", "b")}})
}

func TestEachNumberWithTheOthers(t *testing.T) {
	// Around what stands, around each other, and 0.
	for _, next := range []int64{0, 99, 100, 101, 120} {
		for _, log := range []int64{0, 49, 50, 51, 99, 100, 101, 119, 120} {
			for _, last := range []int64{0, 69, 70, 71} {
				p := made(t, standing())
				ok := next != 99 && log != 49 && last != 69 && log < orElse(next, 100)
				p.answered(t, fmt.Sprint("Next ", next, ", Log ", log, ", Last ", last), api.Edit{Next: next, Log: log, Last: last}, ok)
			}
		}
	}
}

func TestNumbersRiseOverManyEdits(t *testing.T) {
	p := newPair()
	for i := range int64(40) {
		p.ok(t, "rising", api.Edit{Next: 2*i + 3, Log: 2*i + 2, Last: 5 * i})
		p.refused(t, "Next falls", api.Edit{Next: 2*i + 2})
		p.refused(t, "Log falls", api.Edit{Log: 2*i + 1})
		p.ok(t, "all stay", api.Edit{Next: 2*i + 3, Log: 2*i + 2, Last: 5 * i})
	}
	p.refused(t, "Last falls", api.Edit{Last: 5*39 - 1})
}

func TestANumberThatFallsTakesTheRestAlong(t *testing.T) {
	come := []api.File{file(60, 3, "a", "b")}
	for _, e := range []api.Edit{
		{Next: 99, Log: 60, Last: 80}, {Next: 200, Log: 49, Last: 80}, {Next: 200, Log: 60, Last: 69}, {Next: 200, Log: 200, Last: 80},
		{Next: 99}, {Log: 49}, {Last: 69}, {Log: 100},
	} {
		p := made(t, standing())
		e.Adds, e.Dels = come, []int64{9, 41}
		p.refused(t, "tables come and go", e)
		e.Next, e.Log, e.Last = 0, 0, 0
		p.ok(t, "tables come and go", e)
	}
}

func TestANumOfATableIsBelowNext(t *testing.T) {
	for level := range 5 {
		for _, x := range []struct {
			num, next int64
			ok        bool
		}{
			{97, 0, true}, {98, 0, true}, {100, 0, false}, {101, 0, false}, {mostNum, 0, false},
			{98, 100, true}, {100, 100, false}, {101, 100, false},
			{100, 101, true}, {101, 101, false}, {102, 101, false}, {98, 101, true},
			{119, 120, true}, {120, 120, false}, {121, 120, false},
			{mostNum - 1, mostNum, true}, {mostNum, mostNum, false},
		} {
			what := fmt.Sprint("the table ", x.num, " at ", level, ", Next ", x.next)
			f := file(x.num, level, "x", "y")
			if level == 2 {
				f.Small, f.Great = "\xff\x00", "\xff\x01"
			}
			made(t, standing()).answered(t, what, api.Edit{Next: x.next, Adds: []api.File{f}}, x.ok)
		}
	}
	newPair().refused(t, "the first table, of a New one", adds(file(1, 0, "a", "b")))
	newPair().refused(t, "the first table, of a New one, Next 1", api.Edit{Next: 1, Adds: []api.File{file(1, 0, "a", "b")}})
	newPair().ok(t, "the first table, of a New one, Next 2", api.Edit{Next: 2, Adds: []api.File{file(1, 0, "a", "b")}})
}

func TestANilVersion(t *testing.T) {
	var v *Version
	edits := []api.Edit{{}, standing(), {Next: 1}, {Next: -1}, dels(1), {Adds: make([]api.File, 201)}}
	for _, e := range edits {
		if err := v.Apply(e); err != api.ErrClosed {
			t.Errorf("P20.2: a nil *Version: Apply of %s: %v", shown(e), err)
		}
	}
	if v.Next() != 0 || v.Log() != 0 || v.Last() != 0 {
		t.Errorf("P20.2: a nil *Version: Next %d, Log %d, Last %d", v.Next(), v.Log(), v.Last())
	}
	if e := v.Edit(); e.Next != 0 || e.Log != 0 || e.Last != 0 || len(e.Adds) != 0 || len(e.Dels) != 0 {
		t.Errorf("P20.2: a nil *Version: Edit %s", shown(e))
	}
	if len(v.All()) != 0 {
		t.Errorf("P20.2: a nil *Version: All %s", shown(v.All()))
	}
	for _, n := range anyLevels() {
		if l := v.Level(n); len(l) != 0 {
			t.Errorf("P20.2: a nil *Version: Level %d: %s", n, shown(l))
		}
		for _, small := range anyTexts() {
			if l := v.Over(n, small, "z"); len(l) != 0 {
				t.Errorf("P20.2: a nil *Version: Over %d, %q: %s", n, small, shown(l))
			}
		}
	}
}

package pick

import (
	"fmt"
	"slices"
	"testing"

	"incipit/api"
	"incipit/version"
)

// otherFile is what is written into a list of tables.
var otherFile = api.File{Num: 77, Level: 3, Size: 77, Small: "other", Great: "other"}

// scribble writes into all of l, its spare room too.
func scribble(l []api.File) {
	l = l[:cap(l)]
	for i := range l {
		l[i] = otherFile
	}
}

// copied is a job with lists of its own.
func copied(j Job) Job {
	j.Inputs, j.Below = slices.Clone(j.Inputs), slices.Clone(j.Below)
	return j
}

// busy are tables of which a level is full, with others at all levels.
func busy(level int) model {
	m := full(level, "f", "m")
	m = append(m, spans(50, level+1, [2]string{"a", "e"}, [2]string{"ee", "f"}, [2]string{"g", "h"}, [2]string{"m", "n"}, [2]string{"p", "q"})...)
	if level > 0 {
		m = append(m, spans(60, level, [2]string{"a", "b"}, [2]string{"n", "o"}, [2]string{"p", "q"})...)
	}
	if level < 3 {
		m = append(m, spans(70, level+2, [2]string{"ee", "ef"}, [2]string{"x", "y"})...)
	}
	return m
}

func TestWhatIsDoneToAnswers(t *testing.T) {
	for level := range 4 {
		m := busy(level)
		v := m.made(t)
		want, _ := m.next()
		for _, do := range []func(j Job){
			func(j Job) { scribble(j.Inputs) },
			func(j Job) { scribble(j.Below) },
			func(j Job) { scribble(j.Inputs); scribble(j.Below) },
			func(j Job) { _, _ = append(j.Inputs, otherFile), append(j.Below, otherFile) },
			func(j Job) { slices.Reverse(j.Inputs); slices.Reverse(j.Below) },
			func(j Job) { clear(j.Inputs); clear(j.Below) },
		} {
			was := v.Edit()
			j, _ := Next(v)
			do(j)
			wantUnchanged(t, "what is told is changed", v, was)
			wantJob(t, fmt.Sprint("what is told is changed, of level ", level), v, want, true)
			wantSizes(t, "what is told is changed", v, m)
		}
	}
}

func TestAnswersShareNothing(t *testing.T) {
	for level := range 4 {
		m := busy(level)
		v := m.made(t)
		j, _ := Next(v)
		k, _ := Next(v)
		want := copied(j)
		if len(j.Inputs) == 0 || len(j.Below) != 3 {
			t.Fatalf("P22.1: %s", shown(j))
		}
		scribble(k.Inputs)
		scribble(k.Below)
		if !like(j, want) {
			t.Fatalf("P0.3: of level %d: another answer's lists are changed, and this one is %s", level, shown(j))
		}
		scribble(j.Inputs)
		if !slices.Equal(j.Below, want.Below) {
			t.Fatalf("P0.3: of level %d: Inputs are changed, and Below is %s", level, shown(j.Below))
		}
		k, _ = Next(v)
		scribble(k.Below)
		if !slices.Equal(k.Inputs, want.Inputs) {
			t.Fatalf("P0.3: of level %d: Below is changed, and Inputs are %s", level, shown(k.Inputs))
		}
	}
}

func TestAnAnswerStaysWhileTheVersionChanges(t *testing.T) {
	for level := range 4 {
		v := busy(level).made(t)
		j, _ := Next(v)
		want := copied(j)
		var dels []int64
		for _, f := range v.All() {
			dels = append(dels, f.Num)
		}
		if err := v.Apply(api.Edit{Next: 900, Dels: dels, Adds: parted(300, 4, 190, 9)}); err != api.OK {
			t.Fatal(err)
		}
		if !like(j, want) {
			t.Fatalf("P0.3: of level %d: an older answer is %s", level, shown(j))
		}
		wantJob(t, "all tables went", v, Job{}, false)
	}
}

func TestAskingChangesNothing(t *testing.T) {
	for level := range 4 {
		m := busy(level)
		v := m.made(t)
		if err := v.Apply(api.Edit{Next: 5000, Log: 4000, Last: 3000}); err != api.OK {
			t.Fatal(err)
		}
		was := v.Edit()
		first, _ := Next(v)
		for range 5 {
			wantSizes(t, "asked again", v, m)
			wantJob(t, "asked again", v, first, true)
		}
		wantUnchanged(t, "asked again", v, was)
	}
	v := version.New()
	for range 5 {
		wantJob(t, "a New version", v, Job{}, false)
		wantSizes(t, "a New version", v, nil)
	}
}

func TestVersionsAreApart(t *testing.T) {
	all := []model{busy(0), busy(1), busy(2), busy(3), {}}
	var versions []*version.Version
	for _, m := range all {
		versions = append(versions, m.made(t))
	}
	for range 2 {
		for i, m := range all {
			want, ok := m.next()
			wantJob(t, "many versions in turn", versions[i], want, ok)
			wantSizes(t, "many versions in turn", versions[i], m)
			wantJob(t, "a nil one between", nil, Job{}, false)
		}
	}
}

func TestNumbersOfTheVersionDoNotCount(t *testing.T) {
	for level := range 4 {
		m := busy(level)
		v := m.made(t)
		want, _ := m.next()
		for _, e := range []api.Edit{{Last: 1}, {Next: 1000}, {Log: 999}, {Next: 1 << 50, Last: 1 << 50}, {Log: 1<<50 - 1}} {
			if err := v.Apply(e); err != api.OK {
				t.Fatal(err)
			}
			wantJob(t, "other numbers", v, want, true)
		}
	}
}

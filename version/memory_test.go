package version

import (
	"bytes"
	"fmt"
	"runtime"
	"slices"
	"strings"
	"testing"

	"incipit/api"
)

// scribble writes into all of l, its spare room too.
func scribble[T any](l []T, with T) {
	l = l[:cap(l)]
	for i := range l {
		l[i] = with
	}
}

// otherFile is what is written into a list of tables.
var otherFile = api.File{Num: 77, Level: 3, Size: 77, Small: "other", Great: "other"}

// scribbleEdit writes into both lists of e, their spare room too.
func scribbleEdit(e api.Edit) {
	scribble(e.Adds, otherFile)
	scribble(e.Dels, 77)
}

// scribbleAnswers writes into all lists that the version tells.
func scribbleAnswers(v *Version) {
	scribbleEdit(v.Edit())
	scribble(v.All(), otherFile)
	for n := -1; n <= 5; n++ {
		scribble(v.Level(n), otherFile)
		scribble(v.Over(n, "", "\xff\xff"), otherFile)
		scribble(v.Over(n, "b", "b"), otherFile)
	}
}

// appendAll appends to all lists that the version tells.
func appendAll(v *Version) {
	e := v.Edit()
	_ = append(e.Adds, otherFile)
	_ = append(e.Dels, 77)
	_ = append(v.All(), otherFile)
	for n := -1; n <= 5; n++ {
		_ = append(v.Level(n), otherFile)
		_ = append(v.Over(n, "", "k"), otherFile)
	}
}

// someEdits are edits that may come one behind the other.
func someEdits() []api.Edit {
	return []api.Edit{
		standing(),
		{Next: 1000, Log: 60, Last: 80, Dels: []int64{41, 9}, Adds: []api.File{file(500, 1, "k", "m"), file(501, 0, "", "\xff"), file(9, 2, "\xff\x01", "\xff\x01")}},
		dels(12),
		adds(file(502, 3, "a", "b"), file(503, 3, "c", "d"), file(504, 4, "y", "z")),
		{Last: 90},
		{Dels: []int64{503, 99}, Adds: []api.File{file(503, 0, "c", "d")}},
		{Dels: []int64{20, 500}, Adds: row(600, 100)},
		{Dels: nums(610, 50), Adds: row(800, 20)},
	}
}

func TestWhatIsDoneToAnEditBehindApply(t *testing.T) {
	p := newPair()
	for i, e := range someEdits() {
		// With spare room, which might be taken for the tables' own list.
		e.Adds, e.Dels = slices.Grow(e.Adds, 300), slices.Grow(e.Dels, 300)
		p.ok(t, fmt.Sprint("the edit ", i), e)
		m := *p.m
		m.tables = slices.Clone(m.tables)
		scribbleEdit(e)
		wantLike(t, "the edit's lists are changed", p.v, &m)
		*p.m = m
	}
}

func TestWhatIsDoneToAnswers(t *testing.T) {
	p := newPair()
	scribbleAnswers(p.v)
	for i, e := range someEdits() {
		p.ok(t, fmt.Sprint("the edit ", i), e)
		scribbleAnswers(p.v)
		wantLike(t, "the answers are changed", p.v, p.m)
		appendAll(p.v)
		wantLike(t, "more is appended to the answers", p.v, p.m)
	}
	for i := range int64(30) {
		p.ok(t, "tables go", dels(p.m.tables[i].Num))
		scribbleAnswers(p.v)
		wantLike(t, "the answers are changed", p.v, p.m)
	}
}

func TestAnswersShareNothing(t *testing.T) {
	p := made(t, someEdits()...)
	all, l, over, e := p.v.All(), p.v.Level(0), p.v.Over(0, "", "\xff"), p.v.Edit()
	scribbleAnswers(p.v)
	p.ok(t, "all go", api.Edit{Dels: func() []int64 {
		var l []int64
		for _, f := range all {
			l = append(l, f.Num)
		}
		return l
	}()})
	p.ok(t, "others come", adds(row(1, 200)...))
	q := made(t, someEdits()...)
	wantFiles(t, "an older All", all, q.m.all())
	wantFiles(t, "an older Level", l, q.m.level(0))
	wantFiles(t, "an older Over", over, q.m.level(0))
	wantFiles(t, "an older Edit", e.Adds, q.m.all())
	scribbleEdit(e)
	wantFiles(t, "All and Edit", all, q.m.all())
	scribble(l, otherFile)
	wantFiles(t, "Level and Over", over, q.m.level(0))
	scribble(over, otherFile)
	wantFiles(t, "All and Over", all, q.m.all())
}

// wantKept fails unless Apply leaves an edit's lists, and what stands behind
// them, as they are.
func wantKept(t *testing.T, what string, v *Version, e api.Edit) {
	t.Helper()
	// The caller's own tables and numbers stand behind those of the edit.
	moreAdds, moreDels := append(slices.Clone(e.Adds), otherFile, otherFile), append(slices.Clone(e.Dels), 77, 77)
	keptAdds, keptDels := slices.Clone(moreAdds), slices.Clone(moreDels)
	e.Adds, e.Dels = moreAdds[:len(e.Adds)], moreDels[:len(e.Dels)]
	v.Apply(e)
	if !slices.Equal(moreAdds, keptAdds) || !slices.Equal(moreDels, keptDels) {
		t.Fatalf("P0.3: %s: Apply changes what it is handed: %s", what, shown(e))
	}
}

func TestApplyChangesNothingThatItIsHanded(t *testing.T) {
	v := New()
	for i, e := range someEdits() {
		// Of tables in another order than the levels', too.
		slices.Reverse(e.Adds)
		wantKept(t, fmt.Sprint("the edit ", i), v, e)
		wantKept(t, "the same again", v, e)
	}
	wantFiles(t, "behind all edits", v.All(), made(t, someEdits()...).m.all())
	wantKept(t, "a table across others", v, adds(file(5, 1, "y", "z"), file(4, 1, "", "\xff"), file(3, 1, "a", "b")))
	wantKept(t, "too many", v, adds(row(100, 200)...))
	wantKept(t, "what Check refuses", v, adds(file(5, 1, "y", "z"), file(4, 9, "a", "b"), file(3, 1, "a", "b")))
	wantKept(t, "a nil *Version", nil, standing())
}

func TestACopyGoesItsOwnWay(t *testing.T) {
	for i := range someEdits() {
		p := made(t, someEdits()[:i]...)
		w, m := *p.v, *p.m
		for _, e := range someEdits()[i:] {
			p.ok(t, "one of two", e)
		}
		wantLike(t, "the other of two", &w, &m)
	}
}

func TestAnswersHangOnWhatWasTold(t *testing.T) {
	// What was refused, and what went again, leaves nothing behind.
	p := made(t, someEdits()...)
	q := newPair()
	for _, e := range someEdits() {
		q.refused(t, "one that is refused", api.Edit{Next: mostNum, Last: mostNum, Dels: []int64{9999}})
		q.ok(t, "one that may be", e)
		q.ok(t, "tables that come", api.Edit{Adds: []api.File{file(1, 0, "", "\xff"), file(2, 4, "x", "x")}})
		q.ok(t, "and go", dels(2, 1))
	}
	wantLike(t, "the same by other ways", q.v, p.m)
	again, e := p.v.Edit(), q.v.Edit()
	wantFiles(t, "Edit's", e.Adds, again.Adds)
}

// heap tells how many bytes are in use.
func heap() uint64 {
	runtime.GC()
	var s runtime.MemStats
	runtime.ReadMemStats(&s)
	return s.HeapAlloc
}

func TestNoMoreIsKeptThanNeeded(t *testing.T) {
	v := New()
	before := heap()
	for i := range int64(40) {
		// Of a long text a short piece alone is the table's.
		long := string(bytes.Repeat([]byte{'a' + byte(i%20)}, 1<<20))
		if err := v.Apply(api.Edit{Next: i + 2, Adds: []api.File{{Num: i + 1, Level: 0, Small: long[:3], Great: long[5:9]}}}); err != api.OK {
			t.Fatalf("P20.1: Apply: %v", err)
		}
	}
	// Tables that went leave nothing behind.
	for i := range int64(200) {
		f := file(i+100, 1, strings.Repeat("b", 13000), strings.Repeat("c", 13000))
		if v.Apply(api.Edit{Next: i + 101, Adds: []api.File{f}}) != api.OK || v.Apply(dels(f.Num)) != api.OK {
			t.Fatal("P20.1: Apply is not OK")
		}
	}
	if more := int64(heap()) - int64(before); more > 3<<20 {
		t.Errorf("a version of 40 tables of short texts keeps %d bytes", more)
	}
	runtime.KeepAlive(v)
}

package manifest

import (
	"fmt"
	"runtime"
	"slices"
	"strings"
	"testing"

	"incipit/api"
	"incipit/simfs"
	"incipit/version"
)

// scribble writes into all of l, its spare room too.
func scribble[T any](l []T, with T) {
	l = l[:cap(l)]
	for i := range l {
		l[i] = with
	}
}

// otherFile is what is written into a list of tables.
var otherFile = api.File{Num: 77, Level: 3, Size: 77, Small: "other", Great: "other"}

// scribbleAnswers writes into all that the manifest tells.
func scribbleAnswers(m *Manifest) {
	scribble(m.Old(), "other")
	v := m.Version()
	e := v.Edit()
	scribble(e.Adds, otherFile)
	scribble(e.Dels, 77)
	scribble(v.All(), otherFile)
	for n := range 5 {
		scribble(v.Level(n), otherFile)
		scribble(v.Over(n, "", "\xff\xff"), otherFile)
	}
	for _, f := range v.All() {
		v.Apply(api.Edit{Next: v.Next() + 1, Dels: []int64{f.Num}})
	}
	v.Apply(api.Edit{Next: 1 << 49, Log: 1 << 48, Last: 1 << 48, Adds: row(1, 50)})
	*m.Version() = version.Version{}
}

func TestWhatIsDoneToAnswers(t *testing.T) {
	f := newDisk(manyNames()...)
	m := create(t, f)
	all := []api.Edit{{Next: 2}}
	for i, e := range allKinds() {
		what := fmt.Sprint("the edit ", i)
		scribbleAnswers(m)
		commit(t, what, m, e)
		all = append(all, e)
		scribbleAnswers(m)
		wantVersion(t, what, m, versionOf(t, all...))
		wantOld(t, what, m)
		wantLasts(t, what, f, versionOf(t, all...))
	}
	rewrite(t, "Rewrite", m)
	scribbleAnswers(m)
	want, _ := rewritten(versionOf(t, all...))
	wantVersion(t, "Rewrite", m, want)
	wantLasts(t, "Rewrite", f, want)
	f.Fail(0)
	m.Commit(api.Edit{})
	scribbleAnswers(m)
	wantVersion(t, "when it is closed", m, want)
}

func TestAnswersShareNothing(t *testing.T) {
	f := newDisk("x", "y", "2.tab")
	m := create(t, f)
	commit(t, "two tables", m, add(2), add(3))
	old, again, v, w := m.Old(), m.Old(), m.Version(), m.Version()
	want, wantOld := told(v), slices.Clone(old)
	scribble(again, "other")
	if !slices.Equal(old, wantOld) {
		t.Errorf("P0.3: Old tells one list twice: %v", old)
	}
	if v == w || v.Apply(api.Edit{Dels: []int64{2}}) != api.OK || told(w) != want {
		t.Errorf("P0.3: Version tells one version twice: %s", told(w))
	}
	commit(t, "a table goes", m, api.Edit{Dels: []int64{3}})
	if told(w) != want {
		t.Errorf("P0.3: Commit changes a version that was told: %s", told(w))
	}
	rewrite(t, "Rewrite", m)
	if told(w) != want {
		t.Errorf("P0.3: Rewrite changes a version that was told: %s", told(w))
	}
}

func TestWhatIsDoneToAnEditBehindCommit(t *testing.T) {
	f, m := made(t)
	all := []api.Edit{{Next: 2}}
	for i, e := range allKinds() {
		what := fmt.Sprint("the edit ", i)
		all = append(all, e)
		e.Adds, e.Dels = append(make([]api.File, 0, 300), e.Adds...), append(make([]int64, 0, 300), e.Dels...)
		commit(t, what, m, e)
		scribble(e.Adds, otherFile)
		scribble(e.Dels, 77)
		wantVersion(t, what, m, versionOf(t, all...))
		wantLasts(t, what, f, versionOf(t, all...))
	}
	rewrite(t, "Rewrite", m)
	want, _ := rewritten(versionOf(t, all...))
	wantLasts(t, "Rewrite", f, want)
}

func TestCommitChangesNothingThatItIsHanded(t *testing.T) {
	for _, torn := range []bool{false, true} {
		f, m := made(t, add(2), add(3))
		if torn {
			name, b := theManifest(t, "torn", f)
			write(f, name, b[:len(b)-1])
			m = load(t, "torn", f)
			commit(t, "torn", m, add(3))
			wantManifest(t, "torn", f, m, 3)
		}
		for _, e := range slices.Concat(refused(), allKinds()[5:], refused()) {
			// The caller's own tables and numbers stand behind those of the edit.
			moreAdds, moreDels := append(slices.Clone(e.Adds), otherFile, otherFile), append(slices.Clone(e.Dels), 77, 77)
			keptAdds, keptDels := slices.Clone(moreAdds), slices.Clone(moreDels)
			e.Adds, e.Dels = moreAdds[:len(e.Adds)], moreDels[:len(e.Dels)]
			m.Commit(e)
			if !slices.Equal(moreAdds, keptAdds) || !slices.Equal(moreDels, keptDels) {
				t.Fatalf("P0.3: Commit changes what it is handed: %s", shown(e))
			}
		}
	}
}

func TestWhatIsDoneToTheFilesBehindLoad(t *testing.T) {
	// A manifest knows its version without its files.
	f, _ := made(t, allKinds()...)
	want := versionOf(t, append([]api.Edit{{Next: 2}}, allKinds()...)...)
	m := load(t, "all kinds", f)
	for at := range m.Size() {
		f.Spoil("1.man", at, 255)
	}
	wantVersion(t, "its file is spoilt", m, want)
	f.Remove("1.man")
	f.Remove(current)
	wantVersion(t, "its files are gone", m, want)
	if len(m.Old()) != 0 {
		t.Errorf("P21.2: Old tells %v", m.Old())
	}
}

// heap tells how many bytes are in use.
func heap() uint64 {
	runtime.GC()
	var s runtime.MemStats
	runtime.ReadMemStats(&s)
	return s.HeapAlloc
}

func TestNoMoreIsKeptThanNeeded(t *testing.T) {
	f := simfs.New(1 << 24)
	m := create(t, f)
	commit(t, "room for numbers", m, api.Edit{Next: 5000})
	before := heap()
	for i := range int64(60) {
		// Of a long text a short piece alone is the table's.
		text := strings.Repeat("x", 1<<20)
		commit(t, "a short piece", m, api.Edit{Adds: []api.File{{Num: 1000 + i, Small: text[:3], Great: text[5:9]}}})
		// Tables that went leave nothing behind.
		commit(t, "long texts", m, api.Edit{Adds: long(2000, 20)})
		commit(t, "long texts go", m, api.Edit{Dels: nums(2000, 20)})
		if i%20 == 0 {
			m.Version()
			rewrite(t, "Rewrite", m)
		}
	}
	rewrite(t, "Rewrite", m)
	f.SyncDir()
	if more := int64(heap()) - int64(before); more > 4<<20 {
		t.Errorf("a manifest of 60 tables of short texts keeps %d bytes", more)
	}
	m = load(t, "Load", f)
	if more := int64(heap()) - int64(before); more > 4<<20 {
		t.Errorf("a manifest of 60 tables that was loaded keeps %d bytes", more)
	}
	runtime.KeepAlive(m)
}

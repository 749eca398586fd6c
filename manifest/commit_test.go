package manifest

import (
	"fmt"
	"slices"
	"testing"

	"incipit/api"
)

// wantRefused fails unless Commit refuses e by that error, and nothing changes.
func wantRefused(t *testing.T, what string, m *Manifest, e api.Edit, want api.Errno) {
	t.Helper()
	before, calls, v, size := disk(m.files), m.files.Calls(), *m.Version(), m.Size()
	if err := m.Commit(e); err != want {
		t.Fatalf("P21.2: %s: Commit of %s: %v, not %v", what, shown(e), err, want)
	}
	wantVersion(t, what, m, v)
	wantDisk(t, "P21.2: "+what, m.files, before)
	if m.Size() != size || m.files.Calls() != calls {
		t.Fatalf("P21.2: %s: Size is %d, not %d; %d calls", what, m.Size(), size, m.files.Calls()-calls)
	}
}

func TestCommitOfEachKind(t *testing.T) {
	f, m := made(t)
	all := []api.Edit{{Next: 2}}
	for i, e := range allKinds() {
		what := fmt.Sprint("the edit ", i)
		_, before := theManifest(t, what, f)
		commit(t, what, m, e)
		all = append(all, e)
		wantVersion(t, what, m, versionOf(t, all...))
		wantManifest(t, what, f, m, 1)
		wantLasts(t, what, f, versionOf(t, all...))
		_, b := theManifest(t, what, f)
		if b[:len(before)] != before {
			t.Fatalf("P21.2: %s: what stood ahead is changed", what)
		}
		if len(e.Adds) < 5 {
			wantSame(t, what, edits(t, b), all)
		}
	}
}

func TestCommitOfEachKindBehindLoad(t *testing.T) {
	f, _ := made(t)
	all := []api.Edit{{Next: 2}}
	for i, e := range allKinds() {
		what := fmt.Sprint("the edit ", i)
		m := load(t, what, f)
		commit(t, what, m, e)
		all = append(all, e)
		wantVersion(t, what, m, versionOf(t, all...))
		wantManifest(t, what, f, m, 1)
		wantLasts(t, what, f, versionOf(t, all...))
		f = f.Crash(0, nil)
	}
}

func TestCommitOfNothing(t *testing.T) {
	f, m := made(t)
	size := m.Size()
	for i := range 50 {
		commit(t, "nothing", m, api.Edit{})
		wantVersion(t, "nothing", m, versionOf(t, api.Edit{Next: 2}))
		wantManifest(t, "nothing", f, m, 1)
		if m.Size() <= size {
			t.Fatalf("P21.2: the Commit %d of nothing: Size is %d behind %d", i, m.Size(), size)
		}
		size = m.Size()
	}
	wantLasts(t, "nothing", f, versionOf(t, api.Edit{Next: 2}))
}

func TestCommitOfWhatIsRefused(t *testing.T) {
	f, m := made(t, add(2), add(3))
	for i, e := range refused() {
		what := fmt.Sprint("the refused edit ", i)
		wantRefused(t, what, m, e, api.ErrForm)
		wantRefused(t, what, load(t, what, f), e, api.ErrForm)
		wantLasts(t, what, f, versionOf(t, api.Edit{Next: 2}, add(2), add(3)))
	}
	// It comes ahead of the files' errors.
	f.Fail(0)
	wantRefused(t, "the next call fails", m, api.Edit{Next: 1}, api.ErrForm)
	f.Fail(-1)
	f.Room(0)
	wantRefused(t, "no room", m, api.Edit{Next: 1}, api.ErrForm)
	f.Room(1 << 20)
	commit(t, "behind refused ones", m, add(4))
	wantLasts(t, "behind refused ones", f, versionOf(t, api.Edit{Next: 2}, add(2), add(3), add(4)))
}

func TestManyCommits(t *testing.T) {
	f, m := made(t)
	v := versionOf(t, api.Edit{Next: 2})
	for num := int64(2); num < 150; num++ {
		e := add(num)
		if num%3 == 0 {
			e.Dels = []int64{num - 1}
		}
		commit(t, "many", m, e)
		v, _ = committed(v, e, false)
		wantVersion(t, "many", m, v)
		wantManifest(t, "many", f, m, 1)
		wantVersion(t, "many", load(t, "many", f.Crash(0, nil)), v)
		if num%10 == 0 {
			f = f.Crash(0, nil)
			m = load(t, "many", f)
		}
	}
}

func TestCommitOfMuch(t *testing.T) {
	f, m := made(t, api.Edit{Next: 5000})
	e := api.Edit{Adds: long(100, 200)}
	commit(t, "200 tables of long texts", m, e)
	v := versionOf(t, api.Edit{Next: 5000}, e)
	wantVersion(t, "200 tables of long texts", m, v)
	wantLasts(t, "200 tables of long texts", f, v)
	wantRefused(t, "one more", m, api.Edit{Adds: long(50, 1)}, api.ErrForm)
	commit(t, "all go", m, api.Edit{Dels: nums(100, 200)})
	wantLasts(t, "all go", f, versionOf(t, api.Edit{Next: 5000}))
	rewrite(t, "all go", m)
	if m.Size() > 200 {
		t.Errorf("P21.2: Size is %d", m.Size())
	}
	wantRefused(t, "201 tables", m, api.Edit{Adds: long(100, 201)}, api.ErrForm)
	wantRefused(t, "too long a text", m, api.Edit{Adds: []api.File{{Num: 1, Great: string(make([]byte, 13001))}}}, api.ErrForm)
}

func TestTwoThatAreLoaded(t *testing.T) {
	// Of one that is not changed any more the other goes on.
	f, m := made(t, add(2))
	was := *m.Version()
	x := load(t, "the other", f)
	commit(t, "the other", x, add(3))
	wantVersion(t, "the one", m, was)
	wantLasts(t, "the other", f, versionOf(t, api.Edit{Next: 2}, add(2), add(3)))
	rewrite(t, "the other", x)
	wantVersion(t, "the one", m, was)
	if l := m.Old(); slices.Contains(l, "4.man") {
		t.Errorf("P21.2: Old tells the manifest: %v", l)
	}
}

func TestANilManifest(t *testing.T) {
	var m *Manifest
	for _, e := range append(refused(), allKinds()...) {
		if err := m.Commit(e); err != api.ErrClosed {
			t.Errorf("P21.2: Commit to a nil *Manifest: %v", err)
		}
	}
	if err := m.Rewrite(); err != api.ErrClosed {
		t.Errorf("P21.2: Rewrite of a nil *Manifest: %v", err)
	}
	if v := m.Version(); v != nil || v.Next() != 0 || len(v.All()) != 0 {
		t.Errorf("P21.2: Version of a nil *Manifest: %v", v)
	}
	if m.Size() != 0 || len(m.Old()) != 0 {
		t.Errorf("P21.2: a nil *Manifest: Size %d, Old %v", m.Size(), m.Old())
	}
}

func TestAZeroManifest(t *testing.T) {
	for _, do := range []func(m *Manifest) api.Errno{
		func(m *Manifest) api.Errno { return m.Commit(add(2)) },
		func(m *Manifest) api.Errno { return m.Rewrite() },
	} {
		m := &Manifest{}
		if m.Size() != 0 || len(m.Old()) != 0 || m.Version().Next() != 1 {
			t.Errorf("P0.1: a zero Manifest: Size %d, Old %v, Next %d", m.Size(), m.Old(), m.Version().Next())
		}
		if err := do(m); err != api.ErrNotFound {
			t.Errorf("P0.1: a zero Manifest: %v", err)
		}
		if err := do(m); err != api.ErrReadOnly {
			t.Errorf("P0.1: a zero Manifest: %v", err)
		}
	}
}

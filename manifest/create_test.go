package manifest

import (
	"fmt"
	"slices"
	"strings"
	"testing"

	"incipit/api"
	"incipit/simfs"
)

// wantNew fails unless the manifest is one that Create made, all of which lasts.
func wantNew(t *testing.T, what string, f *simfs.FS, m *Manifest) {
	t.Helper()
	v := m.Version()
	if v.Next() != 2 || v.Log() != 0 || v.Last() != 0 || len(v.All()) != 0 {
		t.Fatalf("P21.1: %s: the version is %s", what, told(v))
	}
	wantManifest(t, what, f, m, 1)
	wantLasts(t, what, f, versionOf(t, api.Edit{Next: 2}))
	commit(t, what, m, add(2))
	wantLasts(t, what, f, versionOf(t, api.Edit{Next: 2}, add(2)))
}

func TestCreate(t *testing.T) {
	f := newDisk()
	m := create(t, f)
	if names := f.Names(); !slices.Equal(names, []string{"1.man", "CURRENT"}) {
		t.Errorf("P21.1: the files are %v", names)
	}
	_, b := theManifest(t, "Create", f)
	wantSame(t, "Create", edits(t, b), []api.Edit{{Next: 2}})
	wantNew(t, "Create", f, m)
}

func TestCreateWithLittleRoom(t *testing.T) {
	f := newDisk()
	m := create(t, f)
	used := f.Used()
	f = simfs.New(used)
	create(t, f)
	f = simfs.New(used - 1)
	if x, err := Create(f); err != api.ErrNoSpace || x != nil {
		t.Errorf("P21.1: Create with too little room: %v, %v", x, err)
	}
	if m.Size() >= used {
		t.Errorf("P21.1: Size is %d, of %d bytes in all", m.Size(), used)
	}
}

func TestCreateAmongOtherFiles(t *testing.T) {
	names := []string{"2.man", "3.tab", "4.log", "current", "CURRENT.", "x"}
	f := newDisk(names...)
	m := create(t, f)
	for _, name := range names {
		if b, err := f.Read(name); string(b) != "junk" || err != api.OK {
			t.Errorf("P21.1: Create leaves of %s: %q, %v", name, b, err)
		}
	}
	if err := f.Remove("2.man"); err != api.OK {
		t.Fatal(err)
	}
	wantNew(t, "among other files", f, m)
}

func TestCreateWhereCurrentIs(t *testing.T) {
	whole := newDisk()
	create(t, whole)
	b, _ := whole.Read(current)
	for _, was := range []string{"", "x", "CURRENT", string(b), string(b[1:]), strings.Repeat("1.man\n", 1000)} {
		f := newDisk("x")
		write(f, current, was)
		before, calls := disk(f), f.Calls()
		if m, err := Create(f); err != api.ErrExists || m != nil {
			t.Errorf("P21.1: Create where CURRENT is %.20q: %v, %v", was, m, err)
		}
		wantDisk(t, "P21.1: ErrExists", f, before)
		if f.Calls() != calls {
			t.Errorf("P21.1: Create where CURRENT is makes %d calls", f.Calls()-calls)
		}
	}
}

func TestCreateWhereAManifestIs(t *testing.T) {
	f, m := made(t, allKinds()...)
	before := disk(f)
	for range 3 {
		if x, err := Create(f); err != api.ErrExists || x != nil {
			t.Errorf("P21.1: Create again: %v, %v", x, err)
		}
		wantDisk(t, "P21.1: Create again", f, before)
	}
	// ErrExists comes ahead of the files' errors, and of what the files hold.
	f.Fail(0)
	if x, err := Create(f); err != api.ErrExists || x != nil {
		t.Errorf("P21.1: Create again: %v, %v", x, err)
	}
	f.Fail(-1)
	commit(t, "behind ErrExists", m, api.Edit{})
}

func TestCreateWithCurrentNotYetSynced(t *testing.T) {
	f := newDisk()
	f.Create(current)
	if m, err := Create(f); err != api.ErrExists || m != nil {
		t.Errorf("P21.1: Create where CURRENT is: %v, %v", m, err)
	}
	c := f.Crash(0, nil)
	wantNew(t, "behind a crash", c, create(t, c))
}

func TestCreateWhereNamesAreLeft(t *testing.T) {
	whole := newDisk()
	create(t, whole)
	log, _ := whole.Read("1.man")
	for _, left := range []string{"", "x", string(log), string(log) + string(log), string(log[:3]), strings.Repeat("x", 1000)} {
		for _, names := range [][]string{{"1.man"}, {beside}, {"1.man", beside}} {
			f := newDisk()
			for _, name := range names {
				write(f, name, left)
			}
			what := fmt.Sprintf("%v are left with %.20q", names, left)
			wantNew(t, what, f, create(t, f))
		}
	}
}

func TestCreateBehindOneThatFailed(t *testing.T) {
	for fail := range 20 {
		f := newDisk()
		f.Fail(fail)
		m, err := Create(f)
		if err == api.OK {
			if fail < 3 {
				t.Errorf("P21.1: Create is OK though the call %d failed", fail)
			}
			continue
		}
		if err != api.ErrIO || m != nil {
			t.Fatalf("P21.1: Create that failed at the call %d: %v, %v", fail, m, err)
		}
		what := fmt.Sprint("behind one that failed at the call ", fail)
		if _, err := f.Read(current); err == api.OK {
			m = load(t, what, f)
			commit(t, what, m, add(2))
			wantLasts(t, what, f, versionOf(t, api.Edit{Next: 2}, add(2)))
			continue
		}
		wantLoadError(t, what, f, api.ErrNotFound)
		wantNew(t, what, f, create(t, f))
	}
}

// wantCreated fails unless behind a crash of a Create that was not done nothing
// or all of it is there.
func wantCreated(t *testing.T, what string, c *simfs.FS) bool {
	t.Helper()
	c.Room(1 << 24)
	if _, err := Load(c); err == api.ErrNotFound {
		wantNew(t, what, c, create(t, c))
		return false
	}
	m := load(t, what, c)
	wantNew(t, what, c, m)
	return true
}

func TestCreateThatFailsAndACrash(t *testing.T) {
	some := map[bool]int{}
	for fail := range 12 {
		for room := range 60 {
			// No room, or a call that fails.
			if fail > 0 && room > 0 {
				continue
			}
			for n := range 8 {
				for _, tail := range tails() {
					f := newDisk("2.tab")
					f.Fail(fail)
					if room > 0 {
						f.Fail(-1)
						f.Room(f.Used() + room)
					}
					_, err := Create(f)
					c := f.Crash(n, tail)
					done := wantCreated(t, fmt.Sprintf("fail %d, room %d, crash %d, %v", fail, room, n, tail), c)
					if err == api.OK && !done {
						t.Fatalf("P21.1: Create was OK, but is gone behind a crash: fail %d, room %d", fail, room)
					}
					some[done]++
				}
			}
		}
	}
	if some[true] < 20 || some[false] < 20 {
		t.Errorf("P21.1: %v", some)
	}
}

// tails are lengths of what a crash keeps of files that are not synced.
func tails() [][]int {
	var l [][]int
	for _, n := range []int{0, 1, 6, 7, 20, 250, 1 << 24} {
		l = append(l, []int{n, n, n, n, n, n})
	}
	return append(l, nil, []int{-1, 9, 1000}, []int{1000, 0, 9})
}

func TestCreateInAFullDirectory(t *testing.T) {
	for many := 195; many <= 200; many++ {
		f := newDisk()
		for i := range many {
			f.Create(fmt.Sprint("x", i))
		}
		m, err := Create(f)
		if many <= 198 {
			if err != api.OK {
				t.Errorf("P21.1: Create among %d files: %v", many, err)
				continue
			}
			wantNew(t, "among many files", f, m)
			continue
		}
		if err != api.ErrNoSpace || m != nil {
			t.Errorf("P21.1: Create among %d files: %v, %v", many, m, err)
		}
		wantLoadError(t, "among too many files", f, api.ErrNotFound)
	}
}

func TestCreateWithoutFiles(t *testing.T) {
	if m, err := Create(nil); err != api.ErrNotFound || m != nil {
		t.Errorf("P0.1: Create of a nil *FS: %v, %v", m, err)
	}
	if m, err := Load(nil); err != api.ErrNotFound || m != nil {
		t.Errorf("P0.1: Load of a nil *FS: %v, %v", m, err)
	}
}

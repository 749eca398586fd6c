package manifest

import (
	"fmt"
	"testing"

	"incipit/api"
	"incipit/simfs"
	"incipit/version"
)

// wantClosed fails unless the manifest takes no change any more, and its version
// is v.
func wantClosed(t *testing.T, what string, m *Manifest, v version.Version) {
	t.Helper()
	calls := m.files.Calls()
	for _, e := range []api.Edit{{}, add(v.Next()), {Next: -1}} {
		if err := m.Commit(e); err != api.ErrReadOnly {
			t.Fatalf("P21.2: %s: Commit when it is closed: %v", what, err)
		}
		if err := m.Rewrite(); err != api.ErrReadOnly {
			t.Fatalf("P21.2: %s: Rewrite when it is closed: %v", what, err)
		}
		wantVersion(t, what, m, v)
	}
	if m.files.Calls() != calls {
		t.Fatalf("P21.2: %s: it is closed, but makes %d calls", what, m.files.Calls()-calls)
	}
	m.Old()
}

// beginning makes a file system and a manifest in some state, the same ones each
// time.
type beginning struct {
	name string
	make func(t *testing.T) (*simfs.FS, *Manifest)
	torn bool
}

// failed is a file system in which a change has failed at that call, and what
// is loaded of it, without a crash.
func failed(t *testing.T, call int, do func(m *Manifest) api.Errno) (*simfs.FS, *Manifest) {
	t.Helper()
	f, m := made(t, add(2), add(3))
	f.Fail(call)
	if err := do(m); err != api.ErrIO {
		t.Fatalf("the call %d is to fail, but: %v", call, err)
	}
	f.Fail(-1)
	return f, load(t, "behind one that failed", f)
}

// beginnings are states from which changes are tried.
func beginnings() []beginning {
	l := []beginning{
		{"created", func(t *testing.T) (*simfs.FS, *Manifest) { return made(t) }, false},
		{"edits", func(t *testing.T) (*simfs.FS, *Manifest) { return made(t, add(2), add(3), add(4)) }, false},
		{"much", func(t *testing.T) (*simfs.FS, *Manifest) { return made(t, manyTables(30)...) }, false},
		{"rewritten", func(t *testing.T) (*simfs.FS, *Manifest) {
			f, m := made(t, add(2))
			rewrite(t, "a beginning", m)
			return f, m
		}, false},
		{"loaded", func(t *testing.T) (*simfs.FS, *Manifest) {
			f, _ := made(t, add(2), add(3))
			f = f.Crash(0, nil)
			return f, load(t, "a beginning", f)
		}, false},
		{"torn", func(t *testing.T) (*simfs.FS, *Manifest) {
			f, m := made(t, add(2))
			f.Fail(1)
			m.Commit(api.Edit{Next: 50, Adds: row(10, 20)})
			f = f.Crash(0, []int{300})
			return f, load(t, "a beginning", f)
		}, true},
		{"a name is left", func(t *testing.T) (*simfs.FS, *Manifest) {
			f, m := made(t, add(2))
			write(f, "3.man", "junk")
			write(f, beside, "junk")
			return f, m
		}, false},
		{"its number is Next", func(t *testing.T) (*simfs.FS, *Manifest) {
			log, _ := laid(encoded(t, api.Edit{}))
			f := holding(t, log)
			return f, load(t, "a beginning", f)
		}, false},
		{"an edit that was not synced", func(t *testing.T) (*simfs.FS, *Manifest) {
			return failed(t, 1, func(m *Manifest) api.Errno { return m.Commit(add(4)) })
		}, false},
	}
	for call := range 10 {
		name := fmt.Sprint("Rewrite failed at the call ", call)
		l = append(l, beginning{name, func(t *testing.T) (*simfs.FS, *Manifest) {
			return failed(t, call, (*Manifest).Rewrite)
		}, false})
	}
	return l
}

// change is what is done to a manifest, and what it makes of its version.
type change struct {
	name string
	do   func(m *Manifest) api.Errno
	of   func(v version.Version, torn bool) (version.Version, api.Errno)
}

// changes are some of each kind that all beginnings take.
func changes() []change {
	l := []change{{"Rewrite", (*Manifest).Rewrite, func(v version.Version, torn bool) (version.Version, api.Errno) { return rewritten(v) }}}
	for i, e := range []api.Edit{{}, {Next: 2000, Log: 1001, Last: 7000}, {Next: 2000, Adds: row(1500, 20)}, {Next: 1501, Adds: long(1500, 1)}} {
		l = append(l, change{
			fmt.Sprint("Commit ", i),
			func(m *Manifest) api.Errno { return m.Commit(e) },
			func(v version.Version, torn bool) (version.Version, api.Errno) { return committed(v, e, torn) },
		})
	}
	return l
}

// wantEither fails unless what is loaded of the files is one of two versions, and
// takes a Commit that lasts then; it tells whether it is the second one.
func wantEither(t *testing.T, what string, f *simfs.FS, was, would version.Version) bool {
	t.Helper()
	f.Fail(-1)
	f.Room(1 << 24)
	x := load(t, what, f)
	got := *x.Version()
	if told(&got) != told(&was) && told(&got) != told(&would) {
		t.Fatalf("P21.2: %s: loaded is %s, neither %s nor %s", what, shown(told(&got)), shown(told(&was)), shown(told(&would)))
	}
	e := add(got.Next())
	e.Next, e.Log, e.Last = e.Next+1, 0, 1<<45
	commit(t, what, x, e)
	want := versionOf(t, got.Edit(), e)
	wantVersion(t, what, x, want)
	wantVersion(t, what+", behind one more crash", load(t, what, f.Crash(0, nil)), want)
	return told(&got) != told(&was)
}

// tried is a change that is tried while a call fails, or while there is little
// room: made anew each time.
func (b beginning) tried(t *testing.T, c change, fail, room int) (f *simfs.FS, m *Manifest, was version.Version, err api.Errno) {
	t.Helper()
	f, m = b.make(t)
	was = *m.Version()
	if room >= 0 {
		f.Room(f.Used() + room)
	} else {
		f.Fail(fail)
	}
	err = c.do(m)
	return f, m, was, err
}

// wantWhole fails unless a change that was tried is done or not done, whatever a
// crash keeps; it tells whether it was OK.
func (b beginning) wantWhole(t *testing.T, c change, fail, room int, seen map[bool]int) bool {
	t.Helper()
	what := fmt.Sprintf("%s, %s: fail %d, room %d", b.name, c.name, fail, room)
	f, m, was, err := b.tried(t, c, fail, room)
	would, _ := c.of(was, b.torn)
	if err == api.OK {
		wantVersion(t, what, m, would)
		was = would
	} else {
		if err != api.ErrIO && fail >= 0 || err != api.ErrNoSpace && room >= 0 {
			t.Fatalf("P21.2: %s: %v", what, err)
		}
		wantClosed(t, what, m, was)
	}
	fronts, lengths := 8, tails()
	if room >= 0 {
		fronts, lengths = 5, lengths[:5]
	}
	for n := range fronts {
		for _, tail := range lengths {
			g := f.Crash(n, tail)
			seen[wantEither(t, fmt.Sprintf("%s: crash %d, %v", what, n, tail), g, was, would)]++
		}
	}
	wantEither(t, what+": no crash", f, was, would)
	return err == api.OK
}

func TestChangesThatFail(t *testing.T) {
	for _, b := range beginnings() {
		for _, c := range changes() {
			seen, fails := map[bool]int{}, 0
			for fail := 0; !b.wantWhole(t, c, fail, -1, seen); fail++ {
				fails++
			}
			if fails < 2 || seen[false] == 0 || seen[true] == 0 && c.name != "Commit 0" {
				t.Errorf("P21.2: %s, %s: %d calls; %v", b.name, c.name, fails, seen)
			}
		}
	}
}

func TestChangesWithoutRoom(t *testing.T) {
	for i, b := range beginnings() {
		for j, c := range changes() {
			seen, fails := map[bool]int{}, 0
			step := []int{1, 1, 3, 67, 1103}[j]
			if i > 6 {
				step = step*11 + 2
			}
			for room := 0; !b.wantWhole(t, c, -1, room, seen); room += step {
				fails++
			}
			if fails < 1 || seen[false] == 0 {
				t.Errorf("P21.2: %s, %s: %d times no room; %v", b.name, c.name, fails, seen)
			}
		}
	}
}

func TestAFileOfTheManifestsThatIsGone(t *testing.T) {
	for _, do := range []func(m *Manifest) api.Errno{
		func(m *Manifest) api.Errno { return m.Commit(add(3)) },
		(*Manifest).Rewrite,
	} {
		f, m := made(t, add(2))
		was := *m.Version()
		f.Remove("1.man")
		if err := do(m); err != api.ErrNotFound {
			t.Errorf("P21.2: its file is gone: %v", err)
		}
		wantClosed(t, "its file is gone", m, was)
	}
}

func TestLoadWhileCallsFail(t *testing.T) {
	for call := range 10 {
		for fail := range 3 {
			for i, e := range []api.Edit{add(20), {}} {
				f, m := made(t, add(2), add(3))
				f.Fail(call)
				do := (*Manifest).Rewrite
				if call < 2 && i == 0 {
					do = func(m *Manifest) api.Errno { return m.Commit(add(4)) }
				}
				if err := do(m); err != api.ErrIO {
					t.Fatalf("the call %d is to fail, but: %v", call, err)
				}
				f.Fail(fail)
				what := fmt.Sprintf("behind one that failed at the call %d, while the call %d fails", call, fail)
				x := load(t, what, f)
				f.Fail(-1)
				was := *x.Version()
				// What is loaded lasts, at the latest, when a Commit was OK.
				if fail == 2 {
					wantLasts(t, what, f, was)
				}
				commit(t, what, x, e)
				want, _ := committed(was, e, false)
				wantVersion(t, what, x, want)
				wantLasts(t, what, f, want)
				rewrite(t, what, x)
				want, _ = rewritten(want)
				wantLasts(t, what, f, want)
			}
		}
	}
}

func TestRewriteBehindLoadWhileCallsFail(t *testing.T) {
	for call := range 10 {
		for fail := range 3 {
			f, m := made(t, add(2), add(3))
			f.Fail(call)
			m.Rewrite()
			f.Fail(fail)
			what := fmt.Sprintf("behind one that failed at the call %d, while the call %d fails", call, fail)
			x := load(t, what, f)
			f.Fail(-1)
			rewrite(t, what, x)
			wantLasts(t, what, f, *x.Version())
			clearOld(t, f, x)
			wantManifest(t, what, f, x, x.Version().Next()-1)
			for n := range 9 {
				wantVersion(t, what, load(t, what, f.Crash(n, nil)), *x.Version())
			}
		}
	}
}

func TestChangesThatFailBehindLoadWhileCallsFail(t *testing.T) {
	for _, c := range changes() {
		for call := range 10 {
			// The change begins with the two calls that Load could not do.
			for fail := 2; ; fail++ {
				f, m := made(t, add(2), add(3))
				f.Fail(call)
				m.Rewrite()
				f.Fail(0)
				what := fmt.Sprintf("%s that fails at the call %d, behind a Rewrite that failed at %d", c.name, fail, call)
				x := load(t, what, f)
				was := *x.Version()
				would, _ := c.of(was, false)
				f.Fail(fail)
				err := c.do(x)
				if err == api.OK {
					was = would
				}
				wantEither(t, what, f.Crash(0, nil), was, would)
				if err == api.OK {
					break
				}
			}
		}
	}
}

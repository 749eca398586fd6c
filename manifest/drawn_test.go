package manifest

import (
	"fmt"
	"math/rand/v2"
	"testing"

	"incipit/api"
	"incipit/reclog"
	"incipit/simfs"
	"incipit/version"
)

// run is a drawn run: files, a manifest of them, and what it is to tell.
type run struct {
	*rand.Rand
	t *testing.T
	f *simfs.FS
	m *Manifest
	// now is what the manifest's version is, may what a crash may leave of it:
	// one alone, until a change fails.
	now    version.Version
	may    []version.Version
	torn   bool
	closed bool
	counts map[string]int
}

// newRun is a run from Create on.
func newRun(t *testing.T, seed uint64, counts map[string]int) *run {
	r := &run{Rand: rand.New(rand.NewPCG(21, seed)), t: t, f: newDisk("x", "3.log", "2.tab", "9.man"), counts: counts}
	r.m = create(t, r.f)
	r.is(versionOf(t, api.Edit{Next: 2}))
	return r
}

// is keeps that the version is v, and lasts.
func (r *run) is(v version.Version) {
	r.now, r.may = v, []version.Version{v}
}

// edit draws an edit, most of them such as may be.
func (r *run) edit() api.Edit {
	next := r.now.Next()
	e := api.Edit{}
	if r.IntN(2) == 0 {
		e.Next = next + r.Int64N(9) + 1
	}
	if r.IntN(3) == 0 {
		e.Log = r.now.Log() + r.Int64N(2)
	}
	if r.IntN(3) == 0 {
		e.Last = r.now.Last() + r.Int64N(50)
	}
	for _, f := range r.now.All() {
		if r.IntN(8) == 0 {
			e.Dels = append(e.Dels, f.Num)
		}
	}
	for range r.IntN(4) {
		text := fmt.Sprintf("t%03d", r.IntN(300))
		great := text
		if r.IntN(20) == 0 {
			great += string(make([]byte, r.IntN(2000)))
		}
		e.Adds = append(e.Adds, api.File{Num: r.Int64N(next) + 1, Level: r.IntN(5), Size: r.IntN(2000), Small: text, Great: great})
	}
	switch r.IntN(25) {
	case 0:
		e.Next = r.Int64N(next + 1)
	case 1:
		e.Last = -1
	case 2:
		e.Dels = append(e.Dels, next)
	}
	return e
}

// change holds what a change was answered against what was to come: v, or that
// error.
func (r *run) change(what string, err api.Errno, v version.Version, want api.Errno) {
	r.t.Helper()
	switch {
	case r.closed:
		if err != api.ErrReadOnly {
			r.t.Fatalf("P21.2: %s when it is closed: %v", what, err)
		}
		r.counts["closed"]++
	case want != api.OK:
		if err != want {
			r.t.Fatalf("P21.2: %s: %v, not %v", what, err, want)
		}
		r.counts["refused"]++
	case err == api.OK:
		r.is(v)
		r.counts["done"]++
	default:
		if err != api.ErrIO && err != api.ErrNoSpace {
			r.t.Fatalf("P21.2: %s: %v", what, err)
		}
		r.may = append(r.may, v)
		r.closed = true
		r.counts["failed"]++
	}
}

// commit tries a drawn edit.
func (r *run) commit() {
	e := r.edit()
	v, want := committed(r.now, e, r.torn)
	err := r.m.Commit(e)
	r.change("Commit of "+shown(e), err, v, want)
	if err == api.OK && r.torn {
		r.torn = false
		r.counts["behind a torn end"]++
	}
}

// rewrite tries a Rewrite.
func (r *run) rewrite() {
	v, want := rewritten(r.now)
	err := r.m.Rewrite()
	r.change("Rewrite", err, v, want)
	if err == api.OK {
		r.torn = false
	}
}

// load loads what the files tell now, and tells whether that may be.
func (r *run) load(what string) {
	r.t.Helper()
	r.m, r.closed = load(r.t, what, r.f), false
	got := told(r.m.Version())
	for _, v := range r.may {
		if told(&v) == got {
			r.now = v
			name, _ := r.named()
			b, _ := r.f.Read(name)
			_, n, _ := reclog.Read(b)
			r.torn = n < len(b)
			r.counts[what]++
			return
		}
	}
	r.t.Fatalf("P21.1: %s: loaded is %s, none of %d that may be", what, shown(got), len(r.may))
}

// named tells the name of the manifest.
func (r *run) named() (string, api.Errno) {
	num, err := named(r.f)
	return fmt.Sprint(num, ".man"), err
}

// failing lets a call fail, or leaves little room, for the next change.
func (r *run) failing() {
	switch r.IntN(3) {
	case 0:
		r.f.Fail(r.IntN(10))
	case 1:
		r.f.Room(r.f.Used() + r.IntN(200))
	default:
		// An edit that is appended, but not synced.
		r.f.Fail(1)
	}
}

// crash lets the power fail.
func (r *run) crash() {
	var tail []int
	n := r.IntN(3) * r.IntN(60)
	for range 200 {
		tail = append(tail, n+r.IntN(5))
	}
	r.f = r.f.Crash(r.IntN(7)-1, tail)
	r.f.Room(1 << 24)
	r.load("behind a crash")
	r.is(r.now)
}

// file makes a file, or removes one that is old.
func (r *run) file() {
	if old := r.m.Old(); !r.closed && len(old) > 6 {
		r.f.Remove(old[r.IntN(len(old))])
		return
	}
	next := int(r.now.Next())
	r.f.Create(fmt.Sprint(r.IntN(next+5), []string{".log", ".tab", ".man.x", ".x"}[r.IntN(4)]))
}

// check holds what the manifest tells against what it is to.
func (r *run) check(what string) {
	r.t.Helper()
	wantVersion(r.t, what, r.m, r.now)
	if r.closed {
		return
	}
	name, err := r.named()
	b, _ := r.f.Read(name)
	if err != api.OK || r.m.Size() != len(b) {
		r.t.Fatalf("P21.2: %s: Size is %d, of %d bytes; %v", what, r.m.Size(), len(b), err)
	}
	wantOld(r.t, what, r.m)
	if len(r.may) == 1 {
		wantVersion(r.t, what, load(r.t, what, r.f.Crash(r.IntN(5), nil)), r.now)
	}
}

// step does one thing.
func (r *run) step() {
	switch n := r.IntN(100); {
	case n < 55:
		r.commit()
	case n < 62:
		r.rewrite()
	case n < 70:
		r.file()
	case n < 82:
		r.failing()
	case n < 88:
		// What failed may go on failing, while it is loaded, too.
		if r.IntN(4) > 0 {
			r.f.Fail(-1)
			r.f.Room(1 << 24)
		}
		r.load("without a crash")
	case n < 94 && r.closed || n >= 96:
		r.crash()
	}
}

func TestDrawnSteps(t *testing.T) {
	counts := map[string]int{}
	for seed := range uint64(300) {
		r := newRun(t, seed, counts)
		for i := range 150 {
			r.step()
			r.check(fmt.Sprintf("run %d, step %d", seed, i))
		}
	}
	t.Log(counts)
	for _, what := range []string{"done", "refused", "failed", "closed", "behind a crash", "without a crash", "behind a torn end"} {
		if counts[what] < 50 {
			t.Errorf("of %q there are %d", what, counts[what])
		}
	}
}

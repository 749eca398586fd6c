package manifest

import (
	"fmt"
	"slices"
	"strings"
	"testing"

	"incipit/api"
	"incipit/simfs"
)

// wantRewritten fails unless Rewrite keeps the version in a new manifest, whose
// number is Next, which is one more then.
func wantRewritten(t *testing.T, what string, m *Manifest) {
	t.Helper()
	f, was := m.files, *m.Version()
	others := disk(f)
	delete(others, current)
	delete(others, manName(m.num))
	rewrite(t, what, m)
	want, _ := rewritten(was)
	v := m.Version()
	if v.Next() != was.Next()+1 || v.Log() != was.Log() || v.Last() != was.Last() || fmt.Sprint(v.All()) != fmt.Sprint(was.All()) {
		t.Fatalf("P21.2: %s: Rewrite makes %s of %s", what, shown(told(v)), shown(told(&was)))
	}
	wantVersion(t, what, m, want)
	wantManifest(t, what, f, m, was.Next())
	wantLasts(t, what, f, want)
	_, b := theManifest(t, what, f)
	if l := edits(t, b); len(l) != 1 {
		t.Fatalf("P21.2: %s: behind Rewrite there are %d edits", what, len(l))
	}
	left := disk(f)
	delete(left, current)
	delete(left, manName(was.Next()))
	if fmt.Sprint(left) != fmt.Sprint(others) {
		t.Fatalf("P21.2: %s: the other files are %s, not %s", what, shown(left), shown(others))
	}
}

// clearOld removes the manifests that are left, and fails unless Old tells them.
func clearOld(t *testing.T, f *simfs.FS, m *Manifest) {
	t.Helper()
	old := m.Old()
	for _, name := range f.Names() {
		if strings.HasSuffix(name, ".man") && name != manName(m.num) {
			if !slices.Contains(old, name) {
				t.Fatalf("P21.2: Old tells %v, not %s", old, name)
			}
			f.Remove(name)
		}
	}
}

func TestRewrite(t *testing.T) {
	for _, n := range []int{0, 1, 2, 39, 40, 41, 200} {
		what := fmt.Sprint(n, " tables")
		f, m := made(t, manyTables(n)...)
		write(f, "900.tab", "junk")
		size := m.Size()
		wantRewritten(t, what, m)
		if m.Size() >= size {
			t.Errorf("P21.2: %s: Size is %d behind %d", what, m.Size(), size)
		}
		wantRewritten(t, what+", again", m)
		commit(t, what, m, api.Edit{Last: 5000})
		wantRewritten(t, what+", behind Commit", m)
		c := f.Crash(0, nil)
		x := load(t, what, c)
		clearOld(t, c, x)
		wantRewritten(t, what+", behind a crash", x)
	}
}

func TestRewriteOfANewOne(t *testing.T) {
	f, m := made(t)
	for num := int64(2); num < 20; num++ {
		wantRewritten(t, "a new one", m)
		wantManifest(t, "a new one", f, m, num)
	}
	wantLasts(t, "a new one", f, versionOf(t, api.Edit{Next: 20}))
}

func TestRewriteAndEachKind(t *testing.T) {
	f, m := made(t)
	v := *m.Version()
	for i, e := range allKinds() {
		if e.Next > 0 && e.Next < v.Next() {
			continue
		}
		what := fmt.Sprint("the edit ", i)
		commit(t, what, m, e)
		v, _ = committed(v, e, false)
		wantVersion(t, what, m, v)
		wantLasts(t, what, f, v)
		wantRewritten(t, what, m)
		v, _ = rewritten(v)
	}
}

func TestRewriteMakesItLess(t *testing.T) {
	_, m := made(t)
	for num := int64(2); num < 100; num++ {
		e := add(num)
		if num > 2 {
			e.Dels = []int64{num - 1}
		}
		commit(t, "many", m, e)
	}
	size := m.Size()
	wantRewritten(t, "many", m)
	if m.Size() > size/20 {
		t.Errorf("P21.2: Size is %d behind %d", m.Size(), size)
	}
}

func TestRewriteWhereNextEnds(t *testing.T) {
	f, m := made(t, api.Edit{Next: 1<<50 - 1})
	wantRewritten(t, "Next is the last but one", m)
	before, v := disk(f), *m.Version()
	for range 2 {
		if err := m.Rewrite(); err != api.ErrForm {
			t.Errorf("P21.2: Rewrite where Next can't be more: %v", err)
		}
		wantVersion(t, "Next can't be more", m, v)
		wantDisk(t, "P21.2: Next can't be more", f, before)
	}
	commit(t, "Next can't be more", m, api.Edit{Log: 1<<50 - 1}, api.Edit{Adds: []api.File{file(1<<50-1, 1, "", "")}})
	wantLasts(t, "Next can't be more", f, *m.Version())
}

func TestRewriteWhereTheNameIsTaken(t *testing.T) {
	for _, left := range []string{"", "junk"} {
		f, m := made(t, add(2))
		write(f, "3.man", left)
		write(f, beside, left)
		rewrite(t, "a name that is taken", m)
		wantManifest(t, "a name that is taken", f, m, 3)
		wantLasts(t, "a name that is taken", f, versionOf(t, api.Edit{Next: 2}, add(2), api.Edit{Next: 4}))
	}
}

func TestRewriteOfAManifestWhoseNumberIsNext(t *testing.T) {
	// None that the program wrote: of those Next is above the number.
	for _, first := range []api.Edit{{}, {Next: 1}} {
		log, _ := laid(encoded(t, first))
		f := holding(t, log)
		m := load(t, "Next is 1", f)
		wantVersion(t, "Next is 1", m, versionOf(t))
		rewrite(t, "Next is 1", m)
		wantManifest(t, "Next is 1", f, m, 1)
		wantLasts(t, "Next is 1", f, versionOf(t, api.Edit{Next: 2}))
		wantRewritten(t, "Next is 2", m)
	}
}

func TestRewriteInAFullDirectory(t *testing.T) {
	for many := 195; many <= 198; many++ {
		f, m := made(t, add(2))
		for i := range many {
			write(f, fmt.Sprint("x", i), "")
		}
		if many <= 196 {
			wantRewritten(t, "among many files", m)
			continue
		}
		was := *m.Version()
		if err := m.Rewrite(); err != api.ErrNoSpace {
			t.Errorf("P21.2: Rewrite among %d files: %v", many+2, err)
		}
		wantClosed(t, "among many files", m, was)
		wantLasts(t, "among many files", f, was)
	}
}

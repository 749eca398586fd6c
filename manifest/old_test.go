package manifest

import (
	"fmt"
	"regexp"
	"slices"
	"strconv"
	"testing"

	"incipit/api"
	"incipit/simfs"
	"incipit/version"
)

// number is a number as it is told in decimal: from 0 to 2^50.
var number = regexp.MustCompile(`^(0|[1-9][0-9]*)\.(log|tab)$`)

// oldByWords tells the names that are needed no more, by the chapter's words, of
// a manifest of that name.
func oldByWords(f *simfs.FS, manifest string, v *version.Version) []string {
	var l []string
	for _, name := range f.Names() {
		needed := name == "CURRENT" || name == manifest
		if parts := number.FindStringSubmatch(name); parts != nil {
			num, err := strconv.ParseInt(parts[1], 10, 64)
			isThere := slices.ContainsFunc(v.All(), func(f api.File) bool { return f.Num == num })
			needed = err == nil && num <= 1<<50 && (parts[2] == "log" && num >= v.Log() || parts[2] == "tab" && isThere)
		}
		if !needed {
			l = append(l, name)
		}
	}
	return l
}

// wantOld fails unless Old tells what the chapter's words say.
func wantOld(t *testing.T, what string, m *Manifest) {
	t.Helper()
	before, calls := disk(m.files), m.files.Calls()
	l, want := m.Old(), oldByWords(m.files, manName(m.num), m.Version())
	if !slices.Equal(l, want) || !slices.IsSorted(l) {
		t.Fatalf("P21.2: %s: Old tells %v, not %v", what, l, want)
	}
	wantDisk(t, "P21.2: "+what, m.files, before)
	if m.files.Calls() != calls {
		t.Fatalf("P21.2: %s: Old makes %d calls", what, m.files.Calls()-calls)
	}
}

// manyNames are names of files of each kind, and such as look like them.
func manyNames() []string {
	l := []string{"CURRENT1", "CURREN", "current", "Current", "URRENT", "x", "tab", "log", "man", ".tab", ".log", ".man", ".", "..", "7", "7.", "7.x", beside}
	for _, end := range []string{".tab", ".log", ".man"} {
		for _, num := range []string{"0", "1", "2", "3", "4", "5", "6", "7", "8", "9", "10", "11", "99", "1000", "1125899906842623", "1125899906842624", "1125899906842625", "9999999999999999"} {
			l = append(l, num+end)
		}
		l = append(l, "00"+end, "01"+end, "07"+end, "007"+end, "010"+end, "0x7"+end, "7e0"+end, "7.0"+end, "a7"+end, "7a"+end, "7"+end+end, "7"+end+"x", "7"+end+".", ".7"+end)
	}
	return append(l, "7.Tab", "7.LOG", "7.ta", "7.tabl", "7.tab.log", "7.log.tab", "7tab", "7log")
}

func TestOldWrittenOut(t *testing.T) {
	f, m := made(t, add(2), add(3), api.Edit{Next: 20, Log: 7, Adds: []api.File{file(8, 1, "a", "b"), file(12, 3, "a", "b")}})
	for _, name := range []string{"2.tab", "3.tab", "4.tab", "8.tab", "12.tab", "02.tab", "6.log", "7.log", "8.log", "07.log", "300.log", "2.man", "x"} {
		write(f, name, "")
	}
	if l, want := m.Old(), []string{"02.tab", "07.log", "2.man", "4.tab", "6.log", "x"}; !slices.Equal(l, want) {
		t.Errorf("P21.2: Old tells %v, not %v", l, want)
	}
	commit(t, "tables go, and a log is begun", m, api.Edit{Log: 8, Dels: []int64{3, 8}, Adds: []api.File{file(4, 1, "a", "b")}})
	if l, want := m.Old(), []string{"02.tab", "07.log", "2.man", "3.tab", "6.log", "7.log", "8.tab", "x"}; !slices.Equal(l, want) {
		t.Errorf("P21.2: Old tells %v, not %v", l, want)
	}
	rewrite(t, "Old", m)
	if l, want := m.Old(), []string{"02.tab", "07.log", "2.man", "3.tab", "6.log", "7.log", "8.tab", "x"}; !slices.Equal(l, want) {
		t.Errorf("P21.2: Old tells %v, not %v", l, want)
	}
}

func TestOldOfManyNames(t *testing.T) {
	f := newDisk(manyNames()...)
	m := create(t, f)
	wantOld(t, "Create", m)
	for i, e := range allKinds() {
		what := fmt.Sprint("the edit ", i)
		commit(t, what, m, e)
		wantOld(t, what, m)
		wantOld(t, what, load(t, what, f))
		wantOld(t, what, load(t, what, f.Crash(0, nil)))
	}
	rewrite(t, "many names", m)
	wantOld(t, "Rewrite", m)
	if l := m.Old(); slices.Contains(l, "CURRENT") || slices.Contains(l, fmt.Sprint(1<<50-1, ".man")) || slices.Contains(l, "1.man") || len(l) < 50 {
		t.Errorf("P21.2: Old tells %v", l)
	}
}

func TestOldAtEachLog(t *testing.T) {
	f, m := made(t)
	for num := range 30 {
		write(f, fmt.Sprint(num, ".log"), "")
	}
	wantOld(t, "Log is 0", m)
	for num := range int64(30) {
		commit(t, "a log", m, api.Edit{Next: max(2, num+1), Log: num})
		wantOld(t, fmt.Sprint("Log is ", num), m)
		if l := m.Old(); int64(len(l)) != num {
			t.Errorf("P21.2: Log is %d: Old tells %v", num, l)
		}
	}
}

func TestOldOfTablesOfEachLevel(t *testing.T) {
	var names []string
	for num := range 30 {
		names = append(names, fmt.Sprint(num, ".tab"))
	}
	f := newDisk(names...)
	m := create(t, f)
	wantOld(t, "no tables", m)
	for level := range 5 {
		num := int64(level*5 + 1)
		commit(t, "a table", m, api.Edit{Next: num + 1, Adds: []api.File{file(num, level, "a", "b")}})
		wantOld(t, fmt.Sprint("level ", level), m)
	}
	for level := range 5 {
		commit(t, "a table goes", m, api.Edit{Dels: []int64{int64(level*5 + 1)}})
		wantOld(t, fmt.Sprint("level ", level), m)
	}
}

func TestOldInAFullDirectory(t *testing.T) {
	f, m := made(t, manyTables(200)...)
	for num := range 196 {
		write(f, fmt.Sprint(num+100, ".tab"), "")
	}
	write(f, "300.tab", "")
	wantOld(t, "200 files", m)
	if l := m.Old(); !slices.Equal(l, []string{"300.tab"}) {
		t.Errorf("P21.2: Old tells %v", l)
	}
}

func TestOldTellsWhatAFailureLeaves(t *testing.T) {
	for fail := range 12 {
		f, m := made(t, add(2), add(3))
		f.Fail(fail)
		err := m.Rewrite()
		f.Fail(-1)
		for _, name := range m.Old() {
			// What CURRENT names is never old, nor what it named when the manifest
			// was closed.
			if name == "CURRENT" || name == "1.man" {
				t.Errorf("P21.2: Rewrite that failed at the call %d: Old tells %s", fail, name)
			}
			f.Remove(name)
		}
		x := load(t, "behind what is old went", f)
		wantOld(t, "behind a failure", x)
		if err == api.OK && len(m.Old()) > 0 {
			t.Errorf("P21.2: Rewrite leaves %v", m.Old())
		}
		for _, name := range x.Old() {
			f.Remove(name)
		}
		for n := range 9 {
			load(t, "behind what is old went, and a crash", f.Crash(n, nil))
		}
		if l := x.Old(); len(l) > 0 || len(f.Names()) != 2 {
			t.Errorf("P21.2: Old tells %v, of %v", l, f.Names())
		}
	}
}

func TestOldOfOtherFiles(t *testing.T) {
	f, m := made(t)
	if l := m.Old(); len(l) != 0 {
		t.Errorf("P21.2: Old tells %v", l)
	}
	f.Create("x")
	if l := m.Old(); !slices.Equal(l, []string{"x"}) {
		t.Errorf("P21.2: Old tells %v", l)
	}
	f.Remove("x")
	if l := m.Old(); len(l) != 0 {
		t.Errorf("P21.2: Old tells %v", l)
	}
	f.Spoil(current, 0, 1)
	if l := m.Old(); len(l) != 0 {
		t.Errorf("P21.2: Old tells %v", l)
	}
	f.Remove(current)
	f.Remove("1.man")
	if l := m.Old(); len(l) != 0 {
		t.Errorf("P21.2: Old tells %v", l)
	}
}

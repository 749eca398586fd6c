package manifest

import (
	"fmt"
	"maps"
	"slices"
	"strings"
	"testing"

	"incipit/api"
	"incipit/edit"
	"incipit/reclog"
	"incipit/simfs"
	"incipit/version"
)

// file makes a table, whose size differs from that of others.
func file(num int64, level int, small, great string) api.File {
	return api.File{Num: num, Level: level, Size: int(num%1000)*7 + level, Small: small, Great: great}
}

// add makes an edit of one table, at level 0, that moves all three numbers on.
func add(num int64) api.Edit {
	return api.Edit{Next: num + 1, Log: num, Last: num * 10, Adds: []api.File{file(num, 0, "a", "z")}}
}

// row makes n tables from num on, one behind the other at level 1.
func row(num int64, n int) []api.File {
	var l []api.File
	for i := range n {
		text := fmt.Sprintf("t%04d", num+int64(i))
		l = append(l, file(num+int64(i), 1, text, text+"z"))
	}
	return l
}

// long makes n tables from num on whose texts are of 13,000 bytes each.
func long(num int64, n int) []api.File {
	var l []api.File
	for i := range n {
		text := fmt.Sprintf("t%04d", num+int64(i)) + strings.Repeat("x", 12995)
		l = append(l, file(num+int64(i), 2, text, text))
	}
	return l
}

// nums are n numbers from num on.
func nums(num int64, n int) []int64 {
	var l []int64
	for i := range n {
		l = append(l, num+int64(i))
	}
	return l
}

// told is all that a version tells, as a text; shown is its beginning.
func told(v *version.Version) string {
	return fmt.Sprintf("%d %d %d %+v", v.Next(), v.Log(), v.Last(), v.All())
}

func shown(x any) string {
	return fmt.Sprintf("%.400q", fmt.Sprintf("%+v", x))
}

// versionOf is a version behind edits, all of which may be.
func versionOf(t *testing.T, edits ...api.Edit) version.Version {
	t.Helper()
	v := version.New()
	for i, e := range edits {
		if err := v.Apply(e); err != api.OK {
			t.Fatalf("the edit %d: %s: %v", i, shown(e), err)
		}
	}
	return *v
}

// committed tells, by the chapter's words, what Commit makes of a version: where
// the log's end is torn a new manifest is begun, to which the version's Next is
// given, so that Next is one more.
func committed(v version.Version, e api.Edit, torn bool) (version.Version, api.Errno) {
	w := v
	if err := w.Apply(e); err != api.OK {
		return v, err
	}
	if torn && w.Next() == v.Next() {
		return rewritten(w)
	}
	return w, api.OK
}

// rewritten tells what Rewrite makes of a version.
func rewritten(v version.Version) (version.Version, api.Errno) {
	w := v
	if err := w.Apply(api.Edit{Next: v.Next() + 1}); err != api.OK {
		return v, err
	}
	return w, api.OK
}

// disk is all that a file system tells of its files.
func disk(f *simfs.FS) map[string]string {
	all := map[string]string{}
	for _, name := range f.Names() {
		b, _ := f.Read(name)
		all[name] = string(b)
	}
	return all
}

// wantDisk fails unless the files are those.
func wantDisk(t *testing.T, what string, f *simfs.FS, want map[string]string) {
	t.Helper()
	if got := disk(f); !maps.Equal(got, want) {
		t.Fatalf("%s: the files are %s, not %s", what, shown(got), shown(want))
	}
}

// newDisk is a file system with much room, and files of that name that have the
// bytes "junk".
func newDisk(names ...string) *simfs.FS {
	f := simfs.New(1 << 24)
	for _, name := range names {
		write(f, name, "junk")
	}
	return f
}

// write makes a file, all of which lasts.
func write(f *simfs.FS, name, b string) {
	for _, err := range []api.Errno{f.Create(name), f.Append(name, []byte(b)), f.Sync(name), f.SyncDir()} {
		if err != api.OK {
			panic(fmt.Sprint("a file of the test: ", err))
		}
	}
}

// create fails unless Create is OK.
func create(t *testing.T, f *simfs.FS) *Manifest {
	t.Helper()
	m, err := Create(f)
	if err != api.OK || m == nil {
		t.Fatalf("P21.1: Create: %v, %v", m, err)
	}
	return m
}

// load fails unless Load is OK.
func load(t *testing.T, what string, f *simfs.FS) *Manifest {
	t.Helper()
	m, err := Load(f)
	if err != api.OK || m == nil {
		t.Fatalf("P21.1: %s: Load: %v, %v", what, m, err)
	}
	return m
}

// commit fails unless Commit of each edit is OK.
func commit(t *testing.T, what string, m *Manifest, edits ...api.Edit) {
	t.Helper()
	for _, e := range edits {
		if err := m.Commit(e); err != api.OK {
			t.Fatalf("P21.2: %s: Commit of %s: %v", what, shown(e), err)
		}
	}
}

// rewrite fails unless Rewrite is OK.
func rewrite(t *testing.T, what string, m *Manifest) {
	t.Helper()
	if err := m.Rewrite(); err != api.OK {
		t.Fatalf("P21.2: %s: Rewrite: %v", what, err)
	}
}

// made is a manifest that Create makes, behind edits.
func made(t *testing.T, edits ...api.Edit) (*simfs.FS, *Manifest) {
	t.Helper()
	f := newDisk()
	m := create(t, f)
	commit(t, "a beginning", m, edits...)
	return f, m
}

// wantLoadError fails unless Load answers that error, and nothing beside it.
func wantLoadError(t *testing.T, what string, f *simfs.FS, want api.Errno) {
	t.Helper()
	before := disk(f)
	if m, err := Load(f); err != want || m != nil {
		t.Fatalf("P21.1: %s: Load: %v, %v, not %v", what, m, err, want)
	}
	wantDisk(t, "P21.1: "+what, f, before)
}

// wantVersion fails unless the manifest's version tells what v does.
func wantVersion(t *testing.T, what string, m *Manifest, v version.Version) {
	t.Helper()
	if got, want := told(m.Version()), told(&v); got != want {
		t.Fatalf("P21.2: %s: the version is %s, not %s", what, shown(got), shown(want))
	}
}

// wantLasts fails unless what is loaded is v, behind a crash that keeps nothing
// but what was synced, and behind others.
func wantLasts(t *testing.T, what string, f *simfs.FS, v version.Version) {
	t.Helper()
	for _, n := range []int{0, 1, 2, 5, -1, 100} {
		c := f.Crash(n, nil)
		wantVersion(t, fmt.Sprint(what, ": behind a crash, ", n), load(t, what, c), v)
	}
}

// theManifest tells the name of the manifest and its bytes, and fails unless
// there is but one that CURRENT may name.
func theManifest(t *testing.T, what string, f *simfs.FS) (string, string) {
	t.Helper()
	var l []string
	for _, name := range f.Names() {
		if strings.HasSuffix(name, ".man") {
			l = append(l, name)
		}
	}
	if len(l) != 1 {
		t.Fatalf("P21.2: %s: there are %v, not one manifest", what, l)
	}
	b, _ := f.Read(l[0])
	return l[0], string(b)
}

// wantManifest fails unless the one manifest has that name, and as many bytes as
// Size tells, all of them whole edits.
func wantManifest(t *testing.T, what string, f *simfs.FS, m *Manifest, num int64) {
	t.Helper()
	name, b := theManifest(t, what, f)
	_, n, ok := reclog.Read([]byte(b))
	if name != fmt.Sprint(num, ".man") || m.Size() != len(b) || n != len(b) || !ok {
		t.Fatalf("P21.2: %s: %s of %d bytes (%d whole, %v), Size %d, not the manifest %d", what, name, len(b), n, ok, m.Size(), num)
	}
}

// edits tells the edits of a manifest.
func edits(t *testing.T, b string) []api.Edit {
	t.Helper()
	records, _, ok := reclog.Read([]byte(b))
	if !ok {
		t.Fatal("P21.2: the manifest is no log")
	}
	var l []api.Edit
	for _, record := range records {
		e, err := edit.Decode(record)
		if err != api.OK {
			t.Fatalf("P21.2: a record of the manifest is no edit: %v", err)
		}
		l = append(l, e)
	}
	return l
}

// encoded is an edit as a record.
func encoded(t *testing.T, e api.Edit) string {
	t.Helper()
	b, err := edit.Encode(e)
	if err != api.OK {
		t.Fatalf("the edit %s: %v", shown(e), err)
	}
	return string(b)
}

// laid is a log of records, and where each one ends.
func laid(records ...string) (string, []int) {
	var log []byte
	var ends []int
	for _, record := range records {
		log = append(log, reclog.Append(len(log), []byte(record))...)
		ends = append(ends, len(log))
	}
	return string(log), ends
}

// holding is a file system whose manifest has those bytes.
func holding(t *testing.T, b string) *simfs.FS {
	t.Helper()
	f := newDisk()
	create(t, f)
	write(f, "1.man", b)
	return f
}

// allKinds are edits of every kind, that may come one behind the other behind
// Create.
func allKinds() []api.Edit {
	return []api.Edit{
		{},
		{Next: 2},
		{Next: 9},
		{Log: 5},
		{Last: 7},
		{Next: 100, Log: 50, Last: 1000},
		{Adds: []api.File{file(99, 0, "", "\xff")}},
		{Adds: []api.File{file(7, 1, "a", "b"), file(3, 4, "e\u0301", "z"), file(98, 0, "a", "a")}},
		{Dels: []int64{7}},
		{Next: 1000, Adds: row(100, 90)},
		{Next: 1001, Log: 51, Last: 1001, Dels: []int64{99, 3}, Adds: []api.File{file(3, 2, "k", "l")}},
		{Next: 2000, Adds: long(1500, 9)},
		{Dels: nums(100, 90)},
		{Last: 1 << 50},
		{Next: 1<<50 - 1, Log: 1<<50 - 3, Adds: []api.File{file(1<<50-2, 3, "\x00", "\x00")}},
	}
}

// refused are edits that a version behind add(2) and add(3) refuses.
func refused() []api.Edit {
	return []api.Edit{
		{Next: -1},
		{Next: 1<<50 + 1},
		{Next: 3},
		{Log: 2},
		{Log: 4},
		{Last: 29},
		{Dels: []int64{4}},
		{Dels: []int64{2, 2}},
		{Adds: []api.File{file(2, 1, "a", "b")}},
		{Adds: []api.File{file(4, 1, "a", "b")}},
		{Next: 9, Adds: []api.File{file(5, 1, "b", "a")}},
		{Next: 9, Adds: []api.File{file(5, 5, "a", "b")}},
		{Next: 9, Adds: []api.File{file(5, 1, "a", "b"), file(6, 1, "b", "c")}},
		{Next: 900, Adds: row(100, 200)},
		{Next: 900, Adds: row(100, 199)},
	}
}

// manyTables is a version of n tables, by several edits.
func manyTables(n int) []api.Edit {
	l := []api.Edit{{Next: 1000, Log: 400, Last: 4000}}
	for i := 0; i < n; i += 40 {
		l = append(l, api.Edit{Adds: row(100+int64(i), min(40, n-i))})
	}
	return l
}

// wantSame fails unless two lists of edits are alike.
func wantSame(t *testing.T, what string, l, want []api.Edit) {
	t.Helper()
	same := slices.EqualFunc(l, want, func(a, b api.Edit) bool {
		return a.Next == b.Next && a.Log == b.Log && a.Last == b.Last && slices.Equal(a.Adds, b.Adds) && slices.Equal(a.Dels, b.Dels)
	})
	if !same {
		t.Fatalf("P21.2: %s: the edits are %s, not %s", what, shown(l), shown(want))
	}
}

package simfs

import (
	"fmt"
	"math"
	"slices"
	"strings"
	"testing"

	"incipit/api"
)

// A name of as many characters as go, and one of one more.
const (
	longest = "abcdefghij0123456.89"
	tooLong = longest + "x"
)

// noNames are texts that are no names: none, too long, with other characters
// than letters, digits and points.
var noNames = []string{"", tooLong, strings.Repeat("a", 21), strings.Repeat("a", 1000), strings.Repeat("\u00e9", 20),
	"a-b", "a b", "a/b", "a_b", " ", "a\x00", "\x00", "\xff", "\u00e9", "e\u0301", "\u0663", "\uff41", "a,b", "a:", "@", "[", "`", "{", "*", "a\n"}

// edges are numbers beside 0 and far off.
var edges = []int{math.MinInt, math.MinInt + 1, -1 << 40, -2, -1, 0, 1, 2, 1 << 40, math.MaxInt - 1, math.MaxInt}

// told tells all files, with their bytes.
func told(f *FS) string {
	var b strings.Builder
	for _, name := range f.Names() {
		text, err := f.Read(name)
		if err != api.OK {
			return "no file " + name
		}
		fmt.Fprintf(&b, "%s=%s ", name, text)
	}
	return b.String()
}

// whole tells all that can be seen of f: its files, and what each front of the
// changes that wait would leave, with and without what is not synced; but not
// how many calls there were.
func whole(f *FS) string {
	s := fmt.Sprintf("%s| %d", told(f), f.Used())
	huge := slices.Repeat([]int{math.MaxInt}, 300)
	for n := range 12 {
		s += fmt.Sprintf("| %s| %s", told(f.Crash(n, nil)), told(f.Crash(n, huge)))
	}
	return s
}

// want fails unless an error is the one that is asked for.
func want(t *testing.T, what string, got, err api.Errno) {
	t.Helper()
	if got != err {
		t.Errorf("%s: error %d, not %d", what, got, err)
	}
}

// wantFiles fails unless f has just these files.
func wantFiles(t *testing.T, what string, f *FS, files string) {
	t.Helper()
	if got := told(f); got != files {
		t.Errorf("%s: files %q, not %q", what, got, files)
	}
}

// sure fails the test at once if a call is not OK.
func sure(t *testing.T, errs ...api.Errno) {
	t.Helper()
	for i, err := range errs {
		if err != api.OK {
			t.Fatalf("call %d: error %d", i, err)
		}
	}
}

// content is a file's name, its bytes that are synced and its others.
type content struct{ name, synced, rest string }

// filled makes a file system with files whose names are synced.
func filled(t *testing.T, room int, files ...content) *FS {
	t.Helper()
	f := New(room)
	for _, c := range files {
		sure(t, f.Create(c.name), f.Append(c.name, []byte(c.synced)), f.Sync(c.name), f.Append(c.name, []byte(c.rest)))
	}
	sure(t, f.SyncDir())
	return f
}

// full makes a file system with as many files as go.
func full(t *testing.T) *FS {
	t.Helper()
	f := New(1000)
	for i := range api.MaxFiles {
		sure(t, f.Create(fmt.Sprint("f", i)))
	}
	return f
}

func TestNewHasNothing(t *testing.T) {
	for _, room := range append(edges, api.MaxDisk) {
		f := New(room)
		if f == nil || len(f.Names()) != 0 || f.Used() != 0 || f.Calls() != 0 {
			t.Errorf("P10.1: New(%d) has files or calls", room)
		}
		want(t, "P10.1: New has no Fail", f.SyncDir(), api.OK)
	}
}

func TestEachCharacterOfANameAlone(t *testing.T) {
	good := "abcdefghijklmnopqrstuvwxyzABCDEFGHIJKLMNOPQRSTUVWXYZ0123456789."
	for c := range 256 {
		for _, name := range []string{string([]byte{byte(c)}), string([]byte{'a', byte(c)}), string([]byte{byte(c), 'a'}), string([]byte{'1', byte(c), '.'})} {
			err := api.ErrForm
			if strings.IndexByte(good, byte(c)) >= 0 {
				err = api.OK
			}
			f := filled(t, 9, content{"q", "x", ""})
			want(t, fmt.Sprintf("P10.1: Create(%q)", name), f.Create(name), err)
			want(t, fmt.Sprintf("P10.1: Rename to %q", name), f.Rename("q", name), err)
			if err != api.OK {
				wantFiles(t, fmt.Sprintf("P10.1: %q is no name", name), f, "q=x ")
			}
		}
	}
}

func TestNamesOfEachLength(t *testing.T) {
	for size := range 40 {
		name := strings.Repeat("x", size)
		err := api.OK
		if size < 1 || size > 20 {
			err = api.ErrForm
		}
		want(t, fmt.Sprintf("P10.1: Create of a name of %d", size), New(9).Create(name), err)
		want(t, fmt.Sprintf("P10.1: Rename to a name of %d", size), filled(t, 9, content{"q", "", ""}).Rename("q", name), err)
	}
}

func TestEachCallWithTheLongestName(t *testing.T) {
	f := New(9)
	sure(t, f.Create(longest), f.Append(longest, []byte("ab")), f.Sync(longest), f.SyncDir(), f.Spoil(longest, 0, 1), f.Rename(longest, "b"), f.Rename("b", longest))
	if b, err := f.Read(longest); string(b) != "`b" || err != api.OK {
		t.Errorf("P10.1: Read of a long name: %q, %d", b, err)
	}
	sure(t, f.Remove(longest))
	wantFiles(t, "P10.1: Remove of a long name", f, "")
}

func TestEachCallWithANameThatIsNone(t *testing.T) {
	f := filled(t, 9, content{"q", "x", "y"})
	before, calls := whole(f), f.Calls()
	for _, name := range noNames {
		want(t, fmt.Sprintf("P10.1: Create(%q)", name), f.Create(name), api.ErrForm)
		want(t, fmt.Sprintf("P10.1: Rename to %q", name), f.Rename("q", name), api.ErrForm)
		wantNotFound(t, f, name)
	}
	if got := whole(f); got != before {
		t.Errorf("P10.1: an error changed %q to %q", before, got)
	}
	if got := f.Calls() - calls; got != 9*len(noNames) {
		t.Errorf("P10.2: %d calls, not %d", got, 9*len(noNames))
	}
}

// wantNotFound fails unless each call says that there is no file of that name:
// seven changing calls, and those that change nothing.
func wantNotFound(t *testing.T, f *FS, name string) {
	t.Helper()
	for what, err := range map[string]api.Errno{
		"Append":             f.Append(name, []byte("a")),
		"Append of no bytes": f.Append(name, nil),
		"Sync":               f.Sync(name),
		"Remove":             f.Remove(name),
		"Rename":             f.Rename(name, "b"),
		"Rename to no name":  f.Rename(name, ""),
		"Rename to itself":   f.Rename(name, name),
		"Spoil":              f.Spoil(name, 0, 1),
		"Spoil of no place":  f.Spoil(name, -1, 1),
	} {
		want(t, fmt.Sprintf("P10.1: %s of %q", what, name), err, api.ErrNotFound)
	}
	if b, err := f.Read(name); len(b) != 0 || err != api.ErrNotFound {
		t.Errorf("P10.1: Read of %q: %q, error %d", name, b, err)
	}
}

func TestEachCallWithANameThatIsNotThere(t *testing.T) {
	f := filled(t, 2, content{"q", "x", "y"}, content{"gone", "", ""}, content{"old", "", ""})
	sure(t, f.Remove("gone"), f.Rename("old", "new"))
	before := whole(f)
	for _, name := range []string{"a", "Q", "q.", "qq", longest, "gone", "old"} {
		wantNotFound(t, f, name)
	}
	if got := whole(f); got != before {
		t.Errorf("P10.1: an error changed %q to %q", before, got)
	}
}

func TestCreateOfANameThatIsThere(t *testing.T) {
	f := filled(t, 3, content{"a", "abc", ""}, content{"b", "", ""})
	sure(t, f.Create("a"))
	wantFiles(t, "P10.1: Create anew", f, "a= b= ")
	if f.Used() != 0 {
		t.Errorf("P10.1: Used %d behind a Create anew", f.Used())
	}
	sure(t, f.Append("a", []byte("xyz")))
	wantFiles(t, "P10.1: Create anew", f, "a=xyz b= ")
}

func TestAsManyFilesAsGo(t *testing.T) {
	f := full(t)
	before := whole(f)
	want(t, "P10.1: one file more", f.Create("g"), api.ErrNoSpace)
	want(t, "P10.1: one file more, no name", f.Create("g-"), api.ErrForm)
	if got := whole(f); got != before || len(f.Names()) != api.MaxFiles {
		t.Errorf("P10.1: one file more: %d files", len(f.Names()))
	}
	want(t, "P10.1: Create anew of many", f.Create("f7"), api.OK)
	want(t, "P10.1: Rename of many", f.Rename("f7", "g"), api.OK)
	want(t, "P10.1: one file more, of a name that went", f.Create("f7"), api.ErrNoSpace)
	want(t, "P10.1: Rename of many to one that is there", f.Rename("g", "f8"), api.OK)
	if len(f.Names()) != api.MaxFiles-1 {
		t.Errorf("P10.1: Rename to one that is there: %d files", len(f.Names()))
	}
	want(t, "P10.1: the 200th file", f.Create("f7"), api.OK)
	want(t, "P10.1: the 201st file", f.Create("g"), api.ErrNoSpace)
	want(t, "P10.1: Remove of many", f.Remove("f9"), api.OK)
	want(t, "P10.1: the 200th file", f.Create("h"), api.OK)
	want(t, "P10.1: the 201st file", f.Create("f9"), api.ErrNoSpace)
}

func TestAsManyFilesAsGoBehindACrash(t *testing.T) {
	f := full(t)
	for _, c := range []*FS{f.Crash(api.MaxFiles, nil), f.Crash(math.MaxInt, nil)} {
		want(t, "P10.1: the 201st file", c.Create("g"), api.ErrNoSpace)
	}
	c := f.Crash(api.MaxFiles-1, nil)
	want(t, "P10.1: the 200th file", c.Create("g"), api.OK)
	want(t, "P10.1: the 201st file", c.Create("h"), api.ErrNoSpace)
}

func TestRenameToOneThatIsThere(t *testing.T) {
	f := filled(t, 6, content{"a", "ab", ""}, content{"b", "x", "yz"}, content{"c", "", "c"})
	sure(t, f.Rename("a", "b"))
	wantFiles(t, "P10.1: Rename", f, "b=ab c=c ")
	if f.Used() != 3 {
		t.Errorf("P10.1: Used %d behind a Rename", f.Used())
	}
	sure(t, f.Append("b", []byte("cde")))
	wantFiles(t, "P10.1: what was named to is gone", f, "b=abcde c=c ")
	sure(t, f.Rename("c", "d"))
	wantFiles(t, "P10.1: Rename", f, "b=abcde d=c ")
	sure(t, f.Create("c"), f.Append("d", nil), f.Remove("d"))
	wantFiles(t, "P10.1: made anew under its old name", f, "b=abcde c= ")
}

func TestRenameToItselfWaits(t *testing.T) {
	f := filled(t, 9, content{"a", "ab", ""})
	sure(t, f.Rename("a", "a"))
	wantFiles(t, "P10.1: Rename to itself", f, "a=ab ")
	sure(t, f.Create("b"))
	wantFiles(t, "P10.1: Rename to itself waits", f.Crash(1, nil), "a=ab ")
	wantFiles(t, "P10.1: Rename to itself waits", f.Crash(2, nil), "a=ab b= ")
	sure(t, f.Append("a", []byte("c")), f.Sync("a"), f.Rename("a", "a"), f.Remove("b"))
	wantFiles(t, "P10.1: Rename to itself waits", f.Crash(3, nil), "a=abc b= ")
	wantFiles(t, "P10.1: Rename to itself waits", f.Crash(4, nil), "a=abc ")
}

func TestRenameOfSeveralErrors(t *testing.T) {
	f := filled(t, 9, content{"a", "", ""})
	for _, to := range noNames {
		want(t, fmt.Sprintf("P10.1: Rename of none to %q", to), f.Rename("q", to), api.ErrNotFound)
		want(t, fmt.Sprintf("P10.1: Rename of no name to %q", to), f.Rename("", to), api.ErrNotFound)
		want(t, fmt.Sprintf("P10.1: Rename to %q", to), f.Rename("a", to), api.ErrForm)
	}
}

func TestRoomOfNew(t *testing.T) {
	for _, c := range []struct{ given, room int }{
		{0, 0}, {1, 1}, {20, 20}, {-1, 0}, {-20, 0}, {math.MinInt, 0},
		{1<<24 - 1, 1<<24 - 1}, {1 << 24, 1 << 24}, {1<<24 + 1, 1 << 24}, {1 << 25, 1 << 24}, {1 << 32, 1 << 24}, {1<<32 + 1, 1 << 24}, {math.MaxInt, 1 << 24},
	} {
		wantRoom(t, fmt.Sprintf("P10.1: New(%d)", c.given), New(c.given), c.room)
		f := New(77)
		f.Room(c.given)
		wantRoom(t, fmt.Sprintf("P10.2: Room(%d)", c.given), f, c.room)
		wantRoom(t, fmt.Sprintf("P10.3: Crash behind Room(%d)", c.given), f.Crash(0, nil), c.room)
	}
}

// wantRoom fails unless f, which has no files, has room for just so many bytes.
func wantRoom(t *testing.T, what string, f *FS, room int) {
	t.Helper()
	f = f.Crash(math.MaxInt, nil)
	sure(t, f.Create("a"), f.Create("b"))
	want(t, what+": no bytes", f.Append("a", nil), api.OK)
	want(t, what+": one byte more", f.Append("a", make([]byte, room+1)), api.ErrNoSpace)
	want(t, what+": all bytes", f.Append("a", make([]byte, room)), api.OK)
	want(t, what+": no bytes more", f.Append("b", nil), api.OK)
	want(t, what+": one byte behind all", f.Append("b", []byte{1}), api.ErrNoSpace)
	if b, _ := f.Read("a"); len(b) != room || f.Used() != room {
		t.Errorf("%s: %d bytes, Used %d", what, len(b), f.Used())
	}
}

func TestAppendThatJustFits(t *testing.T) {
	f := filled(t, 10, content{"a", "abc", ""}, content{"b", "de", ""})
	before := whole(f)
	want(t, "P10.1: one byte too many", f.Append("a", []byte("uvwxyz")), api.ErrNoSpace)
	want(t, "P10.1: far too many", f.Append("b", make([]byte, 1<<20)), api.ErrNoSpace)
	if got := whole(f); got != before {
		t.Errorf("P10.1: nothing is appended: %q, not %q", got, before)
	}
	want(t, "P10.1: as many as fit", f.Append("a", []byte("vwxyz")), api.OK)
	wantFiles(t, "P10.1: Append", f, "a=abcvwxyz b=de ")
	want(t, "P10.1: no bytes into what is full", f.Append("b", nil), api.OK)
	want(t, "P10.1: no bytes into what is full", f.Append("b", []byte{}), api.OK)
	want(t, "P10.1: one byte into what is full", f.Append("b", []byte("z")), api.ErrNoSpace)
	sure(t, f.Remove("a"))
	want(t, "P10.1: Remove makes room at once", f.Append("b", []byte("12345678")), api.OK)
	want(t, "P10.1: one byte into what is full", f.Append("b", []byte("9")), api.ErrNoSpace)
	wantFiles(t, "P10.1: Append", f, "b=de12345678 ")
	// What only a crash would bring back takes no room.
	wantFiles(t, "P10.1: Append", f.Crash(0, []int{9, 9}), "a=abcvwxyz b=de12345678 ")
}

func TestAppendOfSeveralErrors(t *testing.T) {
	f := filled(t, 2, content{"a", "ab", ""})
	want(t, "P10.1: ErrNotFound ahead of ErrNoSpace", f.Append("q", []byte("c")), api.ErrNotFound)
	want(t, "P10.1: a name that is none ahead of ErrNoSpace", f.Append("", []byte("c")), api.ErrNotFound)
	f.Room(1)
	want(t, "P10.1: ErrNotFound ahead of ErrNoSpace", f.Append("q", nil), api.ErrNotFound)
	want(t, "P10.1: no room", f.Append("a", nil), api.ErrNoSpace)
}

func TestCreateNeedsNoRoom(t *testing.T) {
	f := filled(t, 2, content{"a", "ab", ""})
	f.Room(0)
	want(t, "P10.1: Create", f.Create("b"), api.OK)
	want(t, "P10.1: Rename", f.Rename("b", "c"), api.OK)
	want(t, "P10.1: Sync", f.Sync("a"), api.OK)
	want(t, "P10.1: SyncDir", f.SyncDir(), api.OK)
	want(t, "P10.1: Remove", f.Remove("c"), api.OK)
	wantFiles(t, "P10.1: without room", f, "a=ab ")
}

func TestNamesRise(t *testing.T) {
	names := []string{"b", "a", "Z", "9", ".", "a.b", "aa", "..", "0", "10", "2", "B", longest, "abc"}
	f := New(9)
	for _, name := range names {
		sure(t, f.Create(name))
	}
	slices.Sort(names)
	if got := f.Names(); !slices.Equal(got, names) {
		t.Errorf("P10.1: Names %q, not %q", got, names)
	}
	if got := f.Crash(99, nil).Names(); !slices.Equal(got, names) {
		t.Errorf("P10.3: Names %q, not %q", got, names)
	}
}

func TestReadTellsAllBytes(t *testing.T) {
	f := New(2000)
	sure(t, f.Create("a"), f.Create("b"))
	if b, err := f.Read("a"); len(b) != 0 || err != api.OK {
		t.Errorf("P10.1: Read of an empty file: %q, %d", b, err)
	}
	var all []byte
	for c := range 256 {
		piece := []byte{byte(c), byte(c / 2)}
		sure(t, f.Append("a", piece))
		all = append(all, piece...)
		if b, err := f.Read("a"); string(b) != string(all) || err != api.OK || f.Used() != len(all) {
			t.Fatalf("P10.1: Read %q, error %d, Used %d", b, err, f.Used())
		}
	}
	if b, _ := f.Read("b"); len(b) != 0 {
		t.Errorf("P10.1: Read of another file: %q", b)
	}
}

// changing are the changing calls, each OK with a file system that has files a
// and b and some room.
var changing = []struct {
	name string
	call func(f *FS) api.Errno
}{
	{"Create", func(f *FS) api.Errno { return f.Create("c") }},
	{"Create anew", func(f *FS) api.Errno { return f.Create("a") }},
	{"Append", func(f *FS) api.Errno { return f.Append("a", []byte("z")) }},
	{"Sync", func(f *FS) api.Errno { return f.Sync("a") }},
	{"SyncDir", func(f *FS) api.Errno { return f.SyncDir() }},
	{"Rename", func(f *FS) api.Errno { return f.Rename("a", "b") }},
	{"Rename to itself", func(f *FS) api.Errno { return f.Rename("a", "a") }},
	{"Remove", func(f *FS) api.Errno { return f.Remove("a") }},
}

// failing are changing calls that are not OK with the same file system.
var failing = []struct {
	name string
	call func(f *FS) api.Errno
	err  api.Errno
}{
	{"Create of no name", func(f *FS) api.Errno { return f.Create("") }, api.ErrForm},
	{"Append of none", func(f *FS) api.Errno { return f.Append("q", nil) }, api.ErrNotFound},
	{"Append of too much", func(f *FS) api.Errno { return f.Append("a", make([]byte, 100)) }, api.ErrNoSpace},
	{"Sync of none", func(f *FS) api.Errno { return f.Sync("q") }, api.ErrNotFound},
	{"Rename of none", func(f *FS) api.Errno { return f.Rename("q", "") }, api.ErrNotFound},
	{"Rename to no name", func(f *FS) api.Errno { return f.Rename("a", "") }, api.ErrForm},
	{"Remove of none", func(f *FS) api.Errno { return f.Remove("q") }, api.ErrNotFound},
}

// changed makes a file system in which each changing call changes something.
func changed(t *testing.T) *FS {
	t.Helper()
	f := filled(t, 50, content{"a", "12", "34"}, content{"b", "x", "y"}, content{"d", "", "d"})
	sure(t, f.Remove("d"), f.Create("e"), f.Append("e", []byte("e")))
	return f
}

func TestFailOfTheNextCall(t *testing.T) {
	for _, c := range changing {
		f := changed(t)
		before, calls := whole(f), f.Calls()
		f.Fail(0)
		want(t, "P10.2: "+c.name, c.call(f), api.ErrIO)
		if got := whole(f); got != before {
			t.Errorf("P10.2: %s that fails changed %q to %q", c.name, before, got)
		}
		want(t, "P10.2: later, "+c.name, c.call(f), api.OK)
		// A Rename to itself is seen only by what comes behind it.
		sure(t, f.Create("last"))
		if got := whole(f); got == before {
			t.Errorf("P10.2: later, %s does nothing", c.name)
		}
		if f.Calls() != calls+3 {
			t.Errorf("P10.2: %s: %d calls", c.name, f.Calls()-calls)
		}
	}
}

func TestFailIsAheadOfAllElse(t *testing.T) {
	for _, c := range failing {
		f := changed(t)
		before, calls := whole(f), f.Calls()
		want(t, "P10.2: "+c.name, c.call(f), c.err)
		f.Fail(0)
		want(t, "P10.2: "+c.name, c.call(f), api.ErrIO)
		want(t, "P10.2: "+c.name, c.call(f), c.err)
		if got := whole(f); got != before || f.Calls() != calls+3 {
			t.Errorf("P10.2: %s changed %q to %q, %d calls", c.name, before, got, f.Calls()-calls)
		}
	}
	f := full(t)
	f.Fail(0)
	want(t, "P10.2: the 201st file", f.Create("g"), api.ErrIO)
	want(t, "P10.2: the 201st file", f.Create("g"), api.ErrNoSpace)
}

func TestFailOfALaterCall(t *testing.T) {
	for n := range 30 {
		f := changed(t)
		calls := f.Calls()
		f.Fail(n)
		for i := range 40 {
			got := changing[i%4].call(f)
			// Calls that are not OK by themselves count, too; what changes
			// nothing does not.
			other := failing[i%len(failing)].call(f)
			f.Names()
			f.Read("a")
			f.Spoil("a", 0, 0)
			f.Crash(1, nil)
			f.Room(50)
			err, otherErr := api.OK, failing[i%len(failing)].err
			if n == 2*i {
				err = api.ErrIO
			} else if n == 2*i+1 {
				otherErr = api.ErrIO
			}
			want(t, fmt.Sprintf("P10.2: Fail(%d), call %d", n, 2*i), got, err)
			want(t, fmt.Sprintf("P10.2: Fail(%d), call %d", n, 2*i+1), other, otherErr)
			if f.Calls() != calls+2*i+2 {
				t.Fatalf("P10.2: %d calls, not %d", f.Calls()-calls, 2*i+2)
			}
		}
	}
}

func TestFailBelowZero(t *testing.T) {
	for _, n := range []int{-1, -2, -7, math.MinInt} {
		f := New(9)
		f.Fail(n)
		for range 20 {
			want(t, fmt.Sprintf("P10.2: Fail(%d)", n), f.Create("a"), api.OK)
		}
		for _, was := range []int{0, 1, 5} {
			f.Fail(was)
			f.Fail(n)
			for range 20 {
				want(t, fmt.Sprintf("P10.2: Fail(%d) behind Fail(%d)", n, was), f.SyncDir(), api.OK)
			}
		}
	}
}

func TestFailFarOff(t *testing.T) {
	for _, n := range []int{1000, 1 << 40, math.MaxInt - 1, math.MaxInt} {
		f := New(9)
		f.Fail(n)
		for range 999 {
			want(t, fmt.Sprintf("P10.2: Fail(%d)", n), f.SyncDir(), api.OK)
		}
	}
}

func TestFailToldAnew(t *testing.T) {
	f := New(9)
	f.Fail(1)
	want(t, "P10.2: Fail(1), the next", f.SyncDir(), api.OK)
	f.Fail(2)
	for i, err := range []api.Errno{api.OK, api.OK, api.ErrIO, api.OK, api.OK, api.OK} {
		want(t, fmt.Sprintf("P10.2: told anew, later, %d", i), f.SyncDir(), err)
	}
	f.Fail(5)
	f.Fail(0)
	for i, err := range []api.Errno{api.ErrIO, api.OK, api.OK, api.OK, api.OK, api.OK, api.OK} {
		want(t, fmt.Sprintf("P10.2: told anew, sooner, %d", i), f.SyncDir(), err)
	}
	f.Fail(0)
	want(t, "P10.2: told behind one that failed", f.SyncDir(), api.ErrIO)
	f.Fail(0)
	want(t, "P10.2: told behind one that failed", f.SyncDir(), api.ErrIO)
	want(t, "P10.2: once", f.SyncDir(), api.OK)
}

func TestCallsCountsTheChangingOnes(t *testing.T) {
	f := changed(t)
	n := f.Calls()
	for _, c := range changing {
		c.call(f)
		if n++; f.Calls() != n {
			t.Errorf("P10.2: Calls %d, not %d, behind %s", f.Calls(), n, c.name)
		}
	}
	for _, c := range failing {
		c.call(f)
		if n++; f.Calls() != n {
			t.Errorf("P10.2: Calls %d, not %d, behind %s", f.Calls(), n, c.name)
		}
	}
	f.Read("b")
	f.Read("")
	f.Names()
	f.Used()
	f.Calls()
	f.Fail(-1)
	f.Fail(9)
	f.Room(50)
	f.Crash(1, []int{1})
	f.Spoil("b", 0, 1)
	f.Spoil("b", 99, 1)
	f.Spoil("", 0, 1)
	if f.Calls() != n {
		t.Errorf("P10.2: Calls %d, not %d, behind what changes nothing", f.Calls(), n)
	}
}

func TestRoomToldAnew(t *testing.T) {
	f := filled(t, 5, content{"a", "abc", "de"}, content{"b", "", ""})
	f.Room(4)
	before := whole(f)
	want(t, "P10.2: less than what is used, no bytes", f.Append("b", nil), api.ErrNoSpace)
	want(t, "P10.2: less than what is used, no bytes", f.Append("a", []byte{}), api.ErrNoSpace)
	want(t, "P10.2: less than what is used", f.Append("a", []byte("f")), api.ErrNoSpace)
	if got := whole(f); got != before || f.Used() != 5 {
		t.Errorf("P10.2: Room changed %q to %q", before, got)
	}
	f.Room(5)
	want(t, "P10.2: as much as is used, no bytes", f.Append("b", nil), api.OK)
	want(t, "P10.2: as much as is used", f.Append("b", []byte("x")), api.ErrNoSpace)
	f.Room(6)
	want(t, "P10.2: one more than is used", f.Append("b", []byte("xy")), api.ErrNoSpace)
	want(t, "P10.2: one more than is used", f.Append("b", []byte("x")), api.OK)
	f.Room(0)
	want(t, "P10.2: none", f.Append("b", nil), api.ErrNoSpace)
	sure(t, f.Create("b"), f.Create("a"))
	want(t, "P10.2: none, of no bytes", f.Append("b", nil), api.OK)
	wantFiles(t, "P10.2: Room", f, "a= b= ")
}

func TestCrashKeepsTheRoom(t *testing.T) {
	f := filled(t, 8, content{"a", "abc", "de"})
	f.Room(6)
	c := f.Crash(0, []int{9})
	f.Room(100)
	want(t, "P10.3: the same room", c.Append("a", []byte("fg")), api.ErrNoSpace)
	want(t, "P10.3: the same room", c.Append("a", []byte("f")), api.OK)
	c.Room(3)
	want(t, "P10.3: the old one's room stays", f.Append("a", []byte("fg")), api.OK)
	f.Room(2)
	c = f.Crash(0, []int{9})
	want(t, "P10.3: less room than what is used", c.Append("a", nil), api.ErrNoSpace)
	wantFiles(t, "P10.3: less room than what is used", c, "a=abcdefg ")
}

// renamed makes a file system that has waiting changes of each kind: its names
// that are synced are a, b and c.
func renamed(t *testing.T) *FS {
	t.Helper()
	f := filled(t, 100, content{"a", "A1", "A2"}, content{"b", "", "B2"}, content{"c", "C1", ""})
	sure(t,
		f.Create("d"), f.Append("d", []byte("D1")), f.Sync("d"), f.Append("d", []byte("D2")),
		f.Rename("a", "e"),
		f.Create("a"), f.Append("a", []byte("new")),
		f.Remove("b"),
		f.Rename("d", "c"),
		f.Rename("c", "c"),
		f.Create("e"), f.Append("e", []byte("E1")), f.Sync("e"))
	return f
}

func TestCrashOfEachFront(t *testing.T) {
	f := renamed(t)
	all := []int{math.MaxInt, math.MaxInt, math.MaxInt, math.MaxInt, math.MaxInt, math.MaxInt}
	for n, c := range []struct{ bare, long string }{
		{"a=A1 b= c=C1 ", "a=A1A2 b=B2 c=C1 "},
		{"a=A1 b= c=C1 d=D1 ", "a=A1A2 b=B2 c=C1 d=D1D2 "},
		{"b= c=C1 d=D1 e=A1 ", "b=B2 c=C1 d=D1D2 e=A1A2 "},
		{"a= b= c=C1 d=D1 e=A1 ", "a=new b=B2 c=C1 d=D1D2 e=A1A2 "},
		{"a= c=C1 d=D1 e=A1 ", "a=new c=C1 d=D1D2 e=A1A2 "},
		{"a= c=D1 e=A1 ", "a=new c=D1D2 e=A1A2 "},
		{"a= c=D1 e=A1 ", "a=new c=D1D2 e=A1A2 "},
		{"a= c=D1 e=E1 ", "a=new c=D1D2 e=E1 "},
		{"a= c=D1 e=E1 ", "a=new c=D1D2 e=E1 "},
	} {
		wantFiles(t, fmt.Sprintf("P10.3: the first %d changes", n), f.Crash(n, nil), c.bare)
		wantFiles(t, fmt.Sprintf("P10.3: the first %d changes, tails", n), f.Crash(n, all), c.long)
	}
	for _, n := range edges {
		files := "a=A1 b= c=C1 "
		if n > 7 {
			files = "a= c=D1 e=E1 "
		} else if n > 0 {
			continue
		}
		wantFiles(t, fmt.Sprintf("P10.3: the first %d changes", n), f.Crash(n, nil), files)
	}
	wantFiles(t, "P10.3: the old one stays", f, "a=new c=D1D2 e=E1 ")
}

func TestSyncDirLetsNothingWait(t *testing.T) {
	f := renamed(t)
	sure(t, f.SyncDir())
	for _, n := range edges {
		wantFiles(t, fmt.Sprintf("P10.1: SyncDir, then %d changes", n), f.Crash(n, nil), "a= c=D1 e=E1 ")
	}
	sure(t, f.Remove("a"))
	wantFiles(t, "P10.1: SyncDir", f.Crash(0, nil), "a= c=D1 e=E1 ")
	wantFiles(t, "P10.1: SyncDir", f.Crash(1, nil), "c=D1 e=E1 ")
}

func TestSyncIsOfOneFileAsItIs(t *testing.T) {
	f := filled(t, 100, content{"a", "", "12"}, content{"b", "", "xy"})
	sure(t, f.Sync("a"), f.Append("a", []byte("34")))
	wantFiles(t, "P10.1: Sync", f.Crash(0, nil), "a=12 b= ")
	sure(t, f.SyncDir())
	wantFiles(t, "P10.1: SyncDir is of no bytes", f.Crash(0, nil), "a=12 b= ")
	sure(t, f.Sync("a"), f.Sync("a"), f.Create("c"), f.Append("c", []byte("c")), f.Sync("c"))
	wantFiles(t, "P10.1: Sync is of no name", f.Crash(0, nil), "a=1234 b= ")
	wantFiles(t, "P10.1: Sync", f.Crash(1, nil), "a=1234 b= c=c ")
}

func TestCrashOfTails(t *testing.T) {
	f := filled(t, 100, content{"b", "12", "345"}, content{"a", "", "xyz"}, content{"c", "pq", ""})
	given := []int{1, 2, 3}
	for _, c := range []struct {
		tails []int
		files string
	}{
		{nil, "a= b=12 c=pq "},
		{[]int{}, "a= b=12 c=pq "},
		{given[:1], "a=x b=12 c=pq "},
		{given[:2], "a=x b=1234 c=pq "},
		{given, "a=x b=1234 c=pq "},
		{[]int{0, 1}, "a= b=123 c=pq "},
		{[]int{3, 3, 3}, "a=xyz b=12345 c=pq "},
		{[]int{4, 4, 4}, "a=xyz b=12345 c=pq "},
		{[]int{4, 5, 6, 7, 8, 9}, "a=xyz b=12345 c=pq "},
		{[]int{-1, 1, -1}, "a= b=123 c=pq "},
		{[]int{math.MinInt, math.MinInt, math.MinInt}, "a= b=12 c=pq "},
		{[]int{math.MaxInt, math.MaxInt, math.MaxInt}, "a=xyz b=12345 c=pq "},
		{[]int{math.MinInt, math.MaxInt}, "a= b=12345 c=pq "},
		{[]int{1 << 32, 1<<32 + 1}, "a=xyz b=12345 c=pq "},
	} {
		wantFiles(t, fmt.Sprintf("P10.3: tails %d", c.tails), f.Crash(0, c.tails), c.files)
	}
	// The places are those of the files that are left.
	sure(t, f.Remove("a"), f.Create("d"), f.Append("d", []byte("new")))
	wantFiles(t, "P10.3: tails by what is left", f.Crash(0, given), "a=x b=1234 c=pq ")
	wantFiles(t, "P10.3: tails by what is left", f.Crash(1, given), "b=123 c=pq ")
	wantFiles(t, "P10.3: tails by what is left", f.Crash(2, given), "b=123 c=pq d=new ")
	if !slices.Equal(given, []int{1, 2, 3}) {
		t.Errorf("P0.3: tails were changed to %d", given)
	}
}

func TestCrashOfAFileMadeAnew(t *testing.T) {
	f := filled(t, 100, content{"a", "old", "er"})
	sure(t, f.Create("a"), f.Append("a", []byte("new")), f.Sync("a"), f.Append("a", []byte("er")))
	for _, c := range []struct {
		n, tail int
		files   string
	}{{-1, 0, "a=old "}, {0, 0, "a=old "}, {0, 1, "a=olde "}, {0, 9, "a=older "}, {1, 0, "a=new "}, {1, 1, "a=newe "}, {2, 9, "a=newer "}} {
		wantFiles(t, fmt.Sprintf("P10.3: made anew, Crash(%d, [%d])", c.n, c.tail), f.Crash(c.n, []int{c.tail}), c.files)
	}
	sure(t, f.Create("a"))
	wantFiles(t, "P10.3: made anew twice", f.Crash(0, []int{9}), "a=older ")
	wantFiles(t, "P10.3: made anew twice", f.Crash(1, []int{9}), "a=newer ")
	wantFiles(t, "P10.3: made anew twice", f.Crash(2, []int{9}), "a= ")
}

func TestCrashOfAFileThatWentAndIsMadeAnew(t *testing.T) {
	f := filled(t, 100, content{"a", "old", "er"})
	sure(t, f.Remove("a"), f.Create("a"), f.Append("a", []byte("new")), f.Sync("a"))
	for n, files := range []string{"a=old ", "", "a=new ", "a=new "} {
		wantFiles(t, fmt.Sprintf("P10.3: gone and made anew, %d changes", n), f.Crash(n, nil), files)
	}
}

func TestCrashOfAFileNamedAnewAndAppendedTo(t *testing.T) {
	// The file is one, under whatever name it is left.
	f := filled(t, 100, content{"a", "1", ""})
	sure(t, f.Rename("a", "b"), f.Append("b", []byte("2")), f.Sync("b"), f.Append("b", []byte("3")))
	wantFiles(t, "P10.3: named anew", f.Crash(0, nil), "a=12 ")
	wantFiles(t, "P10.3: named anew", f.Crash(0, []int{1}), "a=123 ")
	wantFiles(t, "P10.3: named anew", f.Crash(1, []int{1}), "b=123 ")
	sure(t, f.Create("a"), f.Append("a", []byte("x")), f.Sync("a"))
	for n, files := range []string{"a=12 ", "b=12 ", "a=x b=12 "} {
		wantFiles(t, fmt.Sprintf("P10.3: named anew, %d changes", n), f.Crash(n, nil), files)
	}
}

func TestCrashBringsBackMoreThanTheRoom(t *testing.T) {
	f := filled(t, 4, content{"a", "", ""}, content{"b", "", ""})
	sure(t, f.Append("a", []byte("1234")), f.Remove("a"), f.Append("b", []byte("5678")))
	c := f.Crash(0, []int{9, 9})
	wantFiles(t, "P10.3: more than the room", c, "a=1234 b=5678 ")
	if c.Used() != 8 {
		t.Errorf("P10.3: Used %d, not 8", c.Used())
	}
	want(t, "P10.3: more than the room", c.Append("a", nil), api.ErrNoSpace)
}

func TestAllIsSyncedBehindACrash(t *testing.T) {
	f := renamed(t)
	for n := range 9 {
		c := f.Crash(n, []int{1, 1, 1, 1, 1})
		files := told(c)
		for _, more := range edges {
			wantFiles(t, "P10.3: all is synced", c.Crash(more, nil), files)
			wantFiles(t, "P10.3: all is synced", c.Crash(more, []int{9, 9, 9, 9, 9}), files)
		}
		name := c.Names()[0]
		sure(t, c.Append(name, []byte("+")))
		wantFiles(t, "P10.3: what comes behind it is not synced", c.Crash(0, nil), files)
		sure(t, c.Remove(name))
		wantFiles(t, "P10.3: what comes behind it waits", c.Crash(0, nil), files)
	}
}

func TestCrashOfNoFiles(t *testing.T) {
	f := New(9)
	for _, n := range edges {
		c := f.Crash(n, edges)
		wantFiles(t, "P10.3: no files", c, "")
		sure(t, c.Create("a"), c.Append("a", []byte("1")))
		wantFiles(t, "P10.3: no files", c, "a=1 ")
		wantFiles(t, "P10.3: no files", c.Crash(0, nil), "")
	}
	wantFiles(t, "P10.3: no files", f, "")
	sure(t, f.Create("a"))
	wantFiles(t, "P10.3: no front is synced", f.Crash(0, nil), "")
	wantFiles(t, "P10.3: a front of a directory without files", f.Crash(1, nil), "a= ")
}

func TestTheOldOneStaysAsItWas(t *testing.T) {
	f := renamed(t)
	f.Fail(1)
	before, calls := whole(f), f.Calls()
	for n := range 9 {
		c := f.Crash(n, []int{9, 9, 9, 9, 9})
		for _, name := range c.Names() {
			sure(t, c.Append(name, []byte("more")), c.Sync(name), c.Spoil(name, 0, 7), c.Rename(name, "q"+name), c.Create(name), c.Remove("q"+name))
		}
		sure(t, c.Create("only"), c.SyncDir())
		c.Room(0)
		c.Fail(0)
		if got := whole(f); got != before || f.Calls() != calls {
			t.Fatalf("P10.3: the old one was %q, is %q", before, got)
		}
	}
	// Its own Fail and room are left to it.
	want(t, "P10.3: the old one's Fail", f.Append("a", []byte("x")), api.OK)
	want(t, "P10.3: the old one's Fail", f.SyncDir(), api.ErrIO)
}

func TestTheNewOneStaysAsItWas(t *testing.T) {
	f := renamed(t)
	var made []*FS
	var before []string
	for n := range 9 {
		made = append(made, f.Crash(n, []int{9, 9, 9, 9, 9}))
		before = append(before, whole(made[n]))
	}
	for _, name := range f.Names() {
		sure(t, f.Spoil(name, 0, 7), f.Append(name, []byte("more")), f.Sync(name), f.Rename(name, "q"+name), f.Create(name), f.Remove("q"+name))
	}
	sure(t, f.Create("only"), f.SyncDir())
	f.Room(0)
	f.Fail(0)
	for n, c := range made {
		if got := whole(c); got != before[n] || c.Calls() != 0 {
			t.Errorf("P10.3: the new one of %d changes was %q, is %q, %d calls", n, before[n], got, c.Calls())
		}
		want(t, "P10.3: the new one's Fail", c.SyncDir(), api.OK)
	}
}

func TestTwoCrashesShareNothing(t *testing.T) {
	f := filled(t, 100, content{"a", "12", "34"})
	one, two := f.Crash(0, []int{1}), f.Crash(0, []int{1})
	sure(t, one.Append("a", []byte("x")), two.Append("a", []byte("y")), one.Spoil("a", 0, 1), f.Append("a", []byte("z")))
	wantFiles(t, "P10.3: one", one, "a=023x ")
	wantFiles(t, "P10.3: the other", two, "a=123y ")
	wantFiles(t, "P10.3: the old one", f, "a=1234z ")
}

func TestNoFailWaitsBehindACrash(t *testing.T) {
	for n := range 4 {
		f := filled(t, 9, content{"a", "1", ""})
		f.Fail(n)
		c := f.Crash(0, nil)
		if c.Calls() != 0 {
			t.Errorf("P10.3: Calls %d", c.Calls())
		}
		for range 9 {
			want(t, "P10.3: no Fail waits", c.Append("a", nil), api.OK)
		}
		if c.Calls() != 9 || f.Calls() != 5 {
			t.Errorf("P10.3: Calls %d, the old one's %d", c.Calls(), f.Calls())
		}
	}
}

func TestSpoilAtEachPlace(t *testing.T) {
	f := filled(t, 100, content{"a", "12", "34"}, content{"b", "12", "34"}, content{"e", "", ""})
	for _, at := range []int{math.MinInt, -1 << 40, -5, -4, -1, 4, 5, 1 << 32, 1 << 40, math.MaxInt} {
		before := whole(f)
		want(t, fmt.Sprintf("P10.3: Spoil at %d", at), f.Spoil("a", at, 1), api.ErrRange)
		want(t, fmt.Sprintf("P10.3: Spoil of no bytes at %d", at), f.Spoil("e", at, 1), api.ErrRange)
		want(t, fmt.Sprintf("P10.3: Spoil of none at %d", at), f.Spoil("q", at, 1), api.ErrNotFound)
		if got := whole(f); got != before {
			t.Errorf("P10.3: Spoil at %d changed %q to %q", at, before, got)
		}
	}
	want(t, "P10.3: Spoil of no bytes", f.Spoil("e", 0, 1), api.ErrRange)
	for at := range 4 {
		for x := range 256 {
			text := []byte("1234")
			text[at] ^= byte(x)
			want(t, fmt.Sprintf("P10.3: Spoil at %d", at), f.Spoil("a", at, byte(x)), api.OK)
			wantFiles(t, "P10.3: Spoil", f, fmt.Sprintf("a=%s b=1234 e= ", text))
			wantFiles(t, "P10.3: Spoil of what lasts", f.Crash(0, []int{0, 9}), fmt.Sprintf("a=%s b=1234 e= ", text[:2]))
			wantFiles(t, "P10.3: Spoil of what may last", f.Crash(0, []int{9}), fmt.Sprintf("a=%s b=12 e= ", text))
			want(t, "P10.3: Spoil back", f.Spoil("a", at, byte(x)), api.OK)
			wantFiles(t, "P10.3: Spoil back", f, "a=1234 b=1234 e= ")
		}
	}
}

func TestSpoilBehindACrash(t *testing.T) {
	f := filled(t, 100, content{"a", "12", "34"})
	c := f.Crash(0, []int{1})
	want(t, "P10.3: Spoil behind the end", c.Spoil("a", 3, 1), api.ErrRange)
	want(t, "P10.3: Spoil of the last byte", c.Spoil("a", 2, 1), api.OK)
	wantFiles(t, "P10.3: Spoil", c, "a=122 ")
	wantFiles(t, "P10.3: Spoil of what lasts", c.Crash(0, nil), "a=122 ")
	wantFiles(t, "P10.3: Spoil, the old one", f, "a=1234 ")
}

func TestSpoilOfAFileNamedAnew(t *testing.T) {
	f := filled(t, 100, content{"a", "1", ""})
	sure(t, f.Rename("a", "b"), f.Spoil("b", 0, 3))
	wantFiles(t, "P10.3: Spoil", f, "b=2 ")
	wantFiles(t, "P10.3: Spoil of what lasts", f.Crash(0, nil), "a=2 ")
	sure(t, f.Create("a"), f.Append("a", []byte("x")), f.Spoil("a", 0, 1))
	wantFiles(t, "P10.3: Spoil of the new one alone", f, "a=y b=2 ")
	wantFiles(t, "P10.3: Spoil of the new one alone", f.Crash(0, nil), "a=2 ")
}

func TestSpoilNeitherFailsNorCounts(t *testing.T) {
	f := filled(t, 100, content{"a", "1", ""})
	calls := f.Calls()
	f.Fail(0)
	want(t, "P10.2: Spoil is no changing call", f.Spoil("a", 0, 3), api.OK)
	if f.Calls() != calls {
		t.Errorf("P10.2: Spoil counts")
	}
	want(t, "P10.2: the next changing call", f.SyncDir(), api.ErrIO)
}

func TestNil(t *testing.T) {
	var none *FS
	for _, n := range edges {
		none.Fail(n)
		none.Room(n)
		if none.Crash(n, edges) != nil {
			t.Error("P10.3: Crash of nil")
		}
		want(t, "P10.3: Spoil of nil", none.Spoil("a", n, 1), api.ErrNotFound)
	}
	for _, name := range append(noNames, "a", longest) {
		wantNotFound(t, none, name)
		want(t, "P10.3: Create of nil", none.Create(name), api.ErrNotFound)
		want(t, "P10.3: Rename of nil", none.Rename("a", name), api.ErrNotFound)
	}
	want(t, "P10.3: SyncDir of nil", none.SyncDir(), api.ErrNotFound)
	if len(none.Names()) != 0 || none.Used() != 0 || none.Calls() != 0 {
		t.Error("P10.3: nil has something")
	}
}

func TestZero(t *testing.T) {
	f := &FS{}
	wantFiles(t, "P0.1: a zero FS", f.Crash(9, edges), "")
	want(t, "P0.1: a zero FS", f.SyncDir(), api.OK)
	want(t, "P0.1: a zero FS", f.Remove("a"), api.ErrNotFound)
	sure(t, f.Create("a"), f.Rename("a", "b"), f.Append("b", nil))
	want(t, "P0.1: a zero FS", f.Append("b", []byte("x")), api.ErrNoSpace)
	wantFiles(t, "P0.1: a zero FS", f.Crash(0, nil), "")
	wantFiles(t, "P0.1: a zero FS", f.Crash(1, nil), "a= ")
	wantFiles(t, "P0.1: a zero FS", f, "b= ")
}

func TestWhatIsHandedInIsNotKept(t *testing.T) {
	f := New(100)
	room := []byte("abcdef")
	sure(t, f.Create("a"), f.Create("b"))
	sure(t, f.Append("a", room[:3]), f.Append("b", room[:3]), f.Append("a", []byte("1")), f.Append("b", []byte("2")))
	sure(t, f.Spoil("a", 0, 1))
	if string(room) != "abcdef" {
		t.Errorf("P0.3: what was handed in is %q", room)
	}
	for i := range room {
		room[i] = '*'
	}
	wantFiles(t, "P0.3: what was handed in is kept", f, "a=`bc1 b=abc2 ")
	tails := []int{1, 2}
	sure(t, f.SyncDir())
	c := f.Crash(0, tails)
	tails[0] = 4
	wantFiles(t, "P0.3: tails are kept", c, "a=` b=ab ")
}

func TestWhatIsAnsweredIsNewMemory(t *testing.T) {
	f := filled(t, 100, content{"a", "abc", "de"}, content{"b", "x", ""})
	before := whole(f)
	for range 3 {
		one, _ := f.Read("a")
		two, _ := f.Read("a")
		names, others := f.Names(), f.Names()
		for i := range one[:cap(one)] {
			one[:cap(one)][i] = '*'
		}
		for i := range names[:cap(names)] {
			names[:cap(names)][i] = "q"
		}
		if string(two) != "abcde" || !slices.Equal(others, []string{"a", "b"}) {
			t.Errorf("P0.3: two answers share memory: %q, %q", two, others)
		}
		if got := whole(f); got != before {
			t.Errorf("P0.3: an answer shares the program's memory: %q, not %q", got, before)
		}
	}
	// Nor does what is written behind the end, where the file grows next.
	one, _ := f.Read("a")
	one = append(one, "****"...)
	sure(t, f.Append("a", []byte("fg")))
	two, _ := f.Read("a")
	if string(one) != "abcde****" || string(two) != "abcdefg" {
		t.Errorf("P0.3: spare room is shared: %q, %q", one, two)
	}
}

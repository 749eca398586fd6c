package wal

import (
	"fmt"
	"math"
	"math/rand/v2"
	"slices"
	"strconv"
	"strings"
	"testing"

	"incipit/api"
	"incipit/simfs"
)

func put(s, v string) api.Op { return api.Op{Kind: api.KPut, Spelling: s, Value: v} }
func del(s string) api.Op    { return api.Op{Kind: api.KDel, Spelling: s} }

// vs are n bytes of a value.
func vs(n int) string {
	return strings.Repeat("v", n)
}

// some is a group of all that is ordinary: both kinds, an empty value, one key
// by two spellings, one spelling twice.
func some() []api.Op {
	return []api.Op{put("\u00e9", "first"), del("b"), put("c", ""), put("e\u0301", "again"), del("\u00e9"), put("\U0001f600", "\x00\xff")}
}

// filling is a group whose record is size bytes, 13 or more but not 140, where
// the length of the value takes another byte.
func filling(size int) []api.Op {
	n := size - 13
	if n > 127 {
		n--
	}
	return []api.Op{put("a", vs(n))}
}

const most = 1 << 50

// nums are numbers of logs.
var nums = []int64{1, 2, 3, 9, 10, 255, 256, 1 << 31, 1<<32 + 1, 1234567890, most - 1, most}

// noNums are numbers that no log has.
var noNums = []int64{0, -1, -2, -3, -most, -most - 1, most + 1, most + 2, 1 << 51, 1<<62 + 1,
	math.MinInt64, math.MinInt64 + 1, math.MinInt64 + 3, math.MaxInt64 - 1, math.MaxInt64}

// want fails unless an error is the one that is asked for.
func want(t *testing.T, what string, got, err api.Errno) {
	t.Helper()
	if got != err {
		t.Errorf("P13.1: %s: error %d, not %d", what, got, err)
	}
}

// sure ends the test if a call is not OK.
func sure(t *testing.T, errs ...api.Errno) {
	t.Helper()
	for i, err := range errs {
		if err != api.OK {
			t.Fatalf("P13.1: call %d: error %d", i, err)
		}
	}
}

// wantCalls fails unless so many changing calls come with what is done.
func wantCalls(t *testing.T, what string, f *simfs.FS, n int, do func()) {
	t.Helper()
	before := f.Calls()
	do()
	if got := f.Calls() - before; got != n {
		t.Errorf("P13.1: %s: %d calls of the files, not %d", what, got, n)
	}
}

// created makes a file system and the log num in it.
func created(t *testing.T, num int64) (*simfs.FS, *Log) {
	t.Helper()
	f := simfs.New(api.MaxDisk)
	l, err := Create(f, num)
	sure(t, err)
	if l == nil {
		t.Fatal("P13.1: Create tells no log")
	}
	return f, l
}

// holding makes a file system with a file of these bytes.
func holding(t *testing.T, name, b string) *simfs.FS {
	t.Helper()
	f := simfs.New(api.MaxDisk)
	sure(t, f.Create(name), f.Append(name, []byte(b)), f.Sync(name), f.SyncDir())
	return f
}

// full makes a file system with as many files as go.
func full(t *testing.T) *simfs.FS {
	t.Helper()
	f := simfs.New(1000)
	for i := range api.MaxFiles {
		sure(t, f.Create(fmt.Sprint("f", i)))
	}
	return f
}

// wantFile fails unless the file has just these bytes.
func wantFile(t *testing.T, what string, f *simfs.FS, name, b string) {
	t.Helper()
	got, err := f.Read(name)
	if err != api.OK || string(got) != b {
		t.Errorf("P13.1: %s: error %d, %d bytes of %s %.60x, not %d bytes %.60x", what, err, len(got), name, got, len(b), b)
	}
}

// wantLog fails unless the log and its file have just these bytes.
func wantLog(t *testing.T, what string, f *simfs.FS, name string, l *Log, b string) {
	t.Helper()
	wantFile(t, what, f, name, b)
	if n := l.Size(); n != len(b) {
		t.Errorf("P13.1: %s: Size %d, not %d", what, n, len(b))
	}
}

// wantReplay fails unless Replay tells just these entries and so many groups,
// and changes nothing.
func wantReplay(t *testing.T, what string, f *simfs.FS, num int64, entries []api.Entry, groups int) {
	t.Helper()
	wantCalls(t, what+": Replay", f, 0, func() {
		l, n, err := Replay(f, num)
		if err != api.OK || n != groups || !slices.Equal(l, entries) {
			t.Errorf("P13.1: %s: Replay(%d): error %d, %d groups, %d entries %.200q, not %d groups, %d entries %.200q", what, num, err, n, len(l), fmt.Sprint(l), groups, len(entries), fmt.Sprint(entries))
		}
	})
}

// wantNothing fails unless Replay tells this error and nothing else.
func wantNothing(t *testing.T, what string, f *simfs.FS, num int64, want api.Errno) {
	t.Helper()
	wantCalls(t, what+": Replay", f, 0, func() {
		if l, n, err := Replay(f, num); len(l) != 0 || n != 0 || err != want {
			t.Errorf("P13.1: %s: Replay(%d): error %d, not %d; %d groups, %d entries", what, num, err, want, n, len(l))
		}
	})
}

func TestName(t *testing.T) {
	for num, name := range map[int64]string{
		0:                   "0.log",
		1:                   "1.log",
		12:                  "12.log",
		100:                 "100.log",
		1234567890123456789: "1234567890123456789.log",
		1 << 50:             "1125899906842624.log",
		-1:                  "-1.log",
		-120:                "-120.log",
		-1 << 50:            "-1125899906842624.log",
		math.MaxInt64:       "9223372036854775807.log",
		math.MinInt64:       "-9223372036854775808.log",
	} {
		if got := Name(num); got != name {
			t.Errorf("P13.1: Name(%d): %q, not %q", num, got, name)
		}
	}
}

func TestNoTwoNumbersHaveOneName(t *testing.T) {
	var all []int64
	for i := range int64(5000) {
		all = append(all, i-2500)
	}
	for i := range 64 {
		all = append(all, int64(1)<<i-1, int64(1)<<i, int64(1)<<i+1, -(int64(1) << i), -(int64(1)<<i + 1))
	}
	for ten := int64(1); ten < math.MaxInt64/10; ten *= 10 {
		all = append(all, ten-1, ten, ten+1, -ten, 1-ten, 9*ten)
	}
	numbers := map[string]int64{}
	for _, num := range all {
		name := Name(num)
		if other, ok := numbers[name]; ok && other != num {
			t.Errorf("P13.1: Name(%d) and Name(%d) are %q", num, other, name)
		}
		numbers[name] = num
		digits, ok := strings.CutSuffix(name, ".log")
		if n, err := strconv.ParseInt(digits, 10, 64); !ok || err != nil || n != num || fmt.Sprint(num) != digits {
			t.Errorf("P13.1: Name(%d): %q", num, name)
		}
	}
}

func TestCreate(t *testing.T) {
	for _, num := range nums {
		f := simfs.New(0)
		what := fmt.Sprintf("Create(%d)", num)
		wantCalls(t, what, f, 1, func() {
			l, err := Create(f, num)
			want(t, what, err, api.OK)
			if l == nil || l.Size() != 0 {
				t.Errorf("P13.1: %s: no log, or its Size is not 0", what)
			}
		})
		if names := f.Names(); !slices.Equal(names, []string{fmt.Sprint(num, ".log")}) {
			t.Errorf("P13.1: %s: files %q", what, names)
		}
		wantFile(t, what, f, fmt.Sprint(num, ".log"), "")
		wantReplay(t, what, f, num, nil, 0)
		// Nobody said that it should last.
		if names := f.Crash(0, nil).Names(); len(names) != 0 {
			t.Errorf("P13.1: %s: the directory is synced: %q", what, names)
		}
	}
}

func TestCreateOfNumbersThatAreNone(t *testing.T) {
	for _, num := range noNums {
		what := fmt.Sprintf("Create(%d)", num)
		failing := simfs.New(1000)
		failing.Fail(0)
		for _, f := range []*simfs.FS{simfs.New(1000), full(t), failing, nil} {
			names := f.Names()
			wantCalls(t, what, f, 0, func() {
				l, err := Create(f, num)
				want(t, what, err, api.ErrRange)
				if l != nil {
					t.Errorf("P13.1: %s: a log beside an error", what)
				}
			})
			if !slices.Equal(f.Names(), names) {
				t.Errorf("P13.1: %s: files %q, not %q", what, f.Names(), names)
			}
		}
		// The call that fails is still to come.
		_, err := Create(failing, 1)
		want(t, what+", then Create(1)", err, api.ErrIO)
	}
}

func TestCreateOfANameThatIsThere(t *testing.T) {
	for _, b := range []string{"", "x", group(1, some()), vs(1000)} {
		f := holding(t, "7.log", b)
		sure(t, f.Create("8.log"), f.Append("8.log", []byte("other")))
		l, err := Create(f, 7)
		sure(t, err)
		wantLog(t, "Create of a name that is there", f, "7.log", l, "")
		wantReplay(t, "Create of a name that is there", f, 7, nil, 0)
		wantFile(t, "the file beside it", f, "8.log", "other")
		w := &written{}
		w.add(1, some())
		sure(t, l.Append(1, some()))
		wantLog(t, "a group in it", f, "7.log", l, w.bytes)
		// Until the directory is synced, what was named so lasts.
		wantFile(t, "what lasts", f.Crash(0, nil), "7.log", b)
	}
	f := full(t)
	sure(t, f.Rename("f0", "7.log"), f.Append("7.log", []byte("x")))
	l, err := Create(f, 7)
	sure(t, err)
	wantLog(t, "Create of a name that is there, of 200 files", f, "7.log", l, "")
}

// wantNoLog fails unless Create tells this error and no log, and leaves the
// files as they are.
func wantNoLog(t *testing.T, what string, f *simfs.FS, num int64, want api.Errno) {
	t.Helper()
	names := f.Names()
	old, _ := f.Read(Name(num))
	l, err := Create(f, num)
	if l != nil || err != want {
		t.Errorf("P13.1: %s: error %d, not %d; or a log beside it", what, err, want)
	}
	left, _ := f.Read(Name(num))
	if !slices.Equal(f.Names(), names) || string(left) != string(old) {
		t.Errorf("P13.1: %s: the files are changed", what)
	}
}

func TestCreateWithErrorsOfTheFiles(t *testing.T) {
	for _, num := range nums {
		wantNoLog(t, "no file system", nil, num, api.ErrNotFound)
		f := full(t)
		wantNoLog(t, "200 files", f, num, api.ErrNoSpace)
		f.Fail(0)
		wantNoLog(t, "200 files, and a call that fails", f, num, api.ErrIO)
		sure(t, f.Remove("f3"))
		_, err := Create(f, num)
		want(t, "199 files", err, api.OK)
		f = holding(t, Name(num), "abc")
		f.Fail(0)
		wantNoLog(t, "a call that fails", f, num, api.ErrIO)
		_, err = Create(f, num)
		want(t, "behind a call that fails", err, api.OK)
		wantFile(t, "behind a call that fails", f, Name(num), "")
	}
}

func TestAppendByteByByte(t *testing.T) {
	f, l := created(t, 12)
	ab := "\xdb\x87\x77\xc2\x0e\x00\x01" + "\x01\x00\x00\x00\x00\x00\x00\x00\x01\x01\x01a\x01b"
	sure(t, l.Append(1, []api.Op{put("a", "b")}))
	wantLog(t, "one group", f, "12.log", l, ab)
	two := "\x02\x01\x00\x00\x00\x00\x00\x00\x02\x01\x02\xc3\xa9\x01v\x00\x01b"
	sure(t, l.Append(258, []api.Op{put("\u00e9", "v"), del("b")}))
	wantLog(t, "two groups", f, "12.log", l, ab+piece(1, two))
	greatest := "\x00\x00\x00\x00\x00\x00\x04\x00\x01\x00\x01a"
	sure(t, l.Append(most, []api.Op{del("a")}))
	wantLog(t, "three groups", f, "12.log", l, ab+piece(1, two)+piece(1, greatest))
}

func TestAppendAtABlocksEnd(t *testing.T) {
	next := group(2, []api.Op{del("a")})
	for _, x := range []struct {
		size int // of the first group's record
		want string
	}{
		{20, piece(1, next)},
		// 20, 19 and 18 bytes of the block are left: the record has 12.
		{229, piece(1, next)},
		{230, piece(1, next)},
		{231, piece(2, next[:11]) + piece(4, next[11:])},
		{241, piece(2, next[:1]) + piece(4, next[1:])},
		{242, piece(2, "") + piece(4, next)},
		{243, zeros(6) + piece(1, next)},
		{244, zeros(5) + piece(1, next)},
		{248, zeros(1) + piece(1, next)},
		{249, piece(1, next)},
	} {
		f, l := created(t, 1)
		first := filling(x.size)
		sure(t, l.Append(1, first), l.Append(2, []api.Op{del("a")}))
		wantLog(t, fmt.Sprintf("behind %d bytes", x.size), f, "1.log", l, piece(1, group(1, first))+x.want)
	}
}

func TestAppendOverBlocks(t *testing.T) {
	for _, x := range []struct {
		size  int
		kinds []byte
	}{
		{249, []byte{1}}, {250, []byte{2, 4}}, {498, []byte{2, 4}}, {499, []byte{2, 3, 4}}, {747, []byte{2, 3, 4}}, {748, []byte{2, 3, 3, 4}},
	} {
		f, l := created(t, 1)
		sure(t, l.Append(1, filling(x.size)))
		record, want := group(1, filling(x.size)), ""
		for _, kind := range x.kinds {
			n := min(249, len(record))
			want, record = want+piece(kind, record[:n]), record[n:]
		}
		wantLog(t, fmt.Sprintf("%d bytes", x.size), f, "1.log", l, want)
	}
}

func TestAppendOfGroupsOfEachSize(t *testing.T) {
	for size := range 800 {
		f, l := created(t, 5)
		w := &written{}
		for i, ops := range [][]api.Op{{put("a", vs(size))}, some(), {del("b")}, {put("c", vs(size/2))}, {del("d")}} {
			what := fmt.Sprintf("a value of %d bytes, group %d", size, i)
			wantCalls(t, what, f, 1, func() { want(t, what, l.Append(int64(10*i+1), ops), api.OK) })
			w.add(int64(10*i+1), ops)
			wantLog(t, what, f, "5.log", l, w.bytes)
		}
		wantReplay(t, fmt.Sprintf("a value of %d bytes", size), f, 5, w.entries, 5)
		// Append alone lets nothing last.
		sure(t, f.SyncDir())
		wantFile(t, "nothing is synced", f.Crash(0, nil), "5.log", "")
	}
}

func TestAppendOfTheGreatestGroups(t *testing.T) {
	f, l := created(t, 5)
	w := &written{}
	for _, x := range []struct {
		seq int64
		ops []api.Op
	}{
		{1, slices.Repeat(some(), 9)[:50]},
		{most - 49, slices.Repeat([]api.Op{del("\u00e9")}, 50)},
		{most, []api.Op{put(strings.Repeat("\u0390", 2048), "v")}},
		// Nothing says that the numbers rise.
		{2, []api.Op{put("a", vs(api.MaxValue)), put("b", vs(api.MaxValue))}},
		{2, []api.Op{put(strings.Repeat("k", api.MaxKey), "")}},
	} {
		wantCalls(t, "a great group", f, 1, func() { sure(t, l.Append(x.seq, x.ops)) })
		w.add(x.seq, x.ops)
		wantLog(t, "a great group", f, "5.log", l, w.bytes)
		wantReplay(t, "a great group", f, 5, w.entries, len(w.ends))
	}
}

// refused are groups that are none, and why.
func refused() []struct {
	seq int64
	ops []api.Op
	err api.Errno
} {
	ok := []api.Op{put("a", "v")}
	long := put("a", vs(api.MaxValue+1))
	return []struct {
		seq int64
		ops []api.Op
		err api.Errno
	}{
		{1, nil, api.ErrForm},
		{1, []api.Op{}, api.ErrForm},
		{1, slices.Repeat(ok, 51), api.ErrForm},
		{1, []api.Op{put("", "v")}, api.ErrBadKey},
		{1, []api.Op{del("\xff")}, api.ErrBadKey},
		{1, []api.Op{put("a", "v"), put(strings.Repeat("k", api.MaxKey+1), "")}, api.ErrBadKey},
		{1, []api.Op{{Kind: 2, Spelling: "a"}}, api.ErrForm},
		{1, []api.Op{{Kind: -1, Spelling: "a"}}, api.ErrForm},
		{1, []api.Op{{Kind: 257, Spelling: "a"}}, api.ErrForm},
		{1, []api.Op{{Kind: api.KDel, Spelling: "a", Value: "v"}}, api.ErrForm},
		{1, []api.Op{long}, api.ErrTooLarge},
		{1, []api.Op{del("a"), long}, api.ErrTooLarge},
		{0, ok, api.ErrForm},
		{-1, ok, api.ErrForm},
		{math.MinInt64, ok, api.ErrForm},
		{most + 1, ok, api.ErrForm},
		{most, slices.Repeat(ok, 2), api.ErrForm},
		{most - 48, slices.Repeat(ok, 50), api.ErrForm},
		{math.MaxInt64, slices.Repeat(ok, 2), api.ErrForm},
		// The changes' error stands ahead of the number's.
		{0, []api.Op{del("")}, api.ErrBadKey},
		{most + 1, []api.Op{long}, api.ErrTooLarge},
	}
}

func TestAppendOfWhatIsNoGroup(t *testing.T) {
	for i, x := range refused() {
		for _, begun := range []bool{false, true} {
			f, l := created(t, 1)
			w := &written{}
			if begun {
				sure(t, l.Append(1, some()))
				w.add(1, some())
			}
			what := fmt.Sprintf("row %d", i)
			check := func() {
				t.Helper()
				wantCalls(t, what, f, 0, func() { want(t, what, l.Append(x.seq, x.ops), x.err) })
				wantLog(t, what, f, "1.log", l, w.bytes)
			}
			check()
			// The group's error stands ahead of all of the files'.
			f.Room(0)
			check()
			f.Fail(0)
			check()
			want(t, what+", and the call that fails then", l.Append(1, some()), api.ErrIO)
			f.Room(api.MaxDisk)
			sure(t, l.Append(7, some()))
			w.add(7, some())
			wantLog(t, what+", and a group behind it", f, "1.log", l, w.bytes)
			wantReplay(t, what, f, 1, w.entries, len(w.ends))
		}
	}
	f, l := created(t, 1)
	sure(t, f.Remove("1.log"))
	want(t, "no group, and no file", l.Append(1, nil), api.ErrForm)
}

func TestAppendWithErrorsOfTheFiles(t *testing.T) {
	one, two := some(), []api.Op{put("k", vs(300)), del("b")}
	w := &written{}
	w.add(1, one)
	after := &written{}
	after.add(1, one)
	after.add(9, two)
	for what, x := range map[string]struct {
		err         api.Errno
		spoil, mend func(f *simfs.FS) api.Errno
	}{
		"a call that fails": {api.ErrIO,
			func(f *simfs.FS) api.Errno { f.Fail(0); return api.OK },
			func(f *simfs.FS) api.Errno { return api.OK }},
		"no room": {api.ErrNoSpace,
			func(f *simfs.FS) api.Errno { f.Room(0); return api.OK },
			func(f *simfs.FS) api.Errno { f.Room(api.MaxDisk); return api.OK }},
		"room for all but a byte": {api.ErrNoSpace,
			func(f *simfs.FS) api.Errno { f.Room(len(after.bytes) - 1); return api.OK },
			func(f *simfs.FS) api.Errno { f.Room(len(after.bytes)); return api.OK }},
		"room that another file has": {api.ErrNoSpace,
			func(f *simfs.FS) api.Errno {
				f.Room(len(after.bytes))
				f.Create("x")
				return f.Append("x", []byte("x"))
			},
			func(f *simfs.FS) api.Errno { return f.Remove("x") }},
		"a file that is gone": {api.ErrNotFound,
			func(f *simfs.FS) api.Errno { return f.Rename("4.log", "x") },
			func(f *simfs.FS) api.Errno { return f.Rename("x", "4.log") }},
	} {
		f, l := created(t, 4)
		sure(t, l.Append(1, one), x.spoil(f))
		name := f.Names()[0]
		wantCalls(t, what, f, 1, func() { want(t, what, l.Append(9, two), x.err) })
		wantLog(t, what, f, name, l, w.bytes)
		sure(t, x.mend(f))
		wantLog(t, what, f, "4.log", l, w.bytes)
		wantReplay(t, what, f, 4, w.entries, 1)
		wantCalls(t, what, f, 1, func() { want(t, what+", mended", l.Append(9, two), api.OK) })
		wantLog(t, what+", mended", f, "4.log", l, after.bytes)
		wantReplay(t, what+", mended", f, 4, after.entries, 2)
	}
}

func TestAppendToAFileThatIsGone(t *testing.T) {
	f, l := created(t, 4)
	sure(t, l.Append(1, some()))
	size := l.Size()
	sure(t, f.Remove("4.log"))
	want(t, "Append", l.Append(9, some()), api.ErrNotFound)
	want(t, "Sync", l.Sync(), api.ErrNotFound)
	if l.Size() != size || len(f.Names()) != 0 {
		t.Errorf("P13.1: Size %d, not %d; files %q", l.Size(), size, f.Names())
	}
	wantNothing(t, "a file that is gone", f, 4, api.ErrNotFound)
}

func TestSync(t *testing.T) {
	f, l := created(t, 4)
	w := &written{}
	sure(t, l.Sync())
	// A file's name lasts by another call than its bytes.
	wantNothing(t, "a directory that is not synced", f.Crash(0, nil), 4, api.ErrNotFound)
	sure(t, f.SyncDir())
	for i := range 9 {
		seq := int64(6*i + 1)
		sure(t, l.Append(seq, some()), l.Append(seq, []api.Op{put("k", vs(90*i))}))
		w.add(seq, some())
		w.add(seq, []api.Op{put("k", vs(90*i))})
		wantCalls(t, "Sync", f, 1, func() { want(t, "Sync", l.Sync(), api.OK) })
		synced := w.bytes
		wantLog(t, "Sync", f, "4.log", l, synced)
		sure(t, l.Append(500, []api.Op{del("b")}))
		wantFile(t, "a crash that keeps no tails", f.Crash(0, nil), "4.log", synced)
		wantReplay(t, "a crash that keeps no tails", f.Crash(0, nil), 4, w.entries, len(w.ends))
		w.add(500, []api.Op{del("b")})
	}
}

func TestSyncWithErrorsOfTheFiles(t *testing.T) {
	f, l := created(t, 4)
	sure(t, f.SyncDir(), l.Append(1, some()))
	w := &written{}
	w.add(1, some())
	f.Fail(0)
	wantCalls(t, "a call that fails", f, 1, func() { want(t, "a call that fails", l.Sync(), api.ErrIO) })
	wantLog(t, "a call that fails", f, "4.log", l, w.bytes)
	wantFile(t, "a call that fails", f.Crash(0, nil), "4.log", "")
	sure(t, f.Rename("4.log", "5.log"))
	want(t, "a file that is gone", l.Sync(), api.ErrNotFound)
	f.Fail(0)
	want(t, "a file that is gone, and a call that fails", l.Sync(), api.ErrIO)
	wantFile(t, "a file that is gone", f.Crash(1, nil), "5.log", "")
	sure(t, f.Rename("5.log", "4.log"))
	f.Room(0)
	sure(t, l.Sync(), f.SyncDir())
	wantFile(t, "a Sync that is OK then", f.Crash(0, nil), "4.log", w.bytes)
}

func TestReplayWrittenOut(t *testing.T) {
	f, l := created(t, 3)
	wantReplay(t, "no groups", f, 3, nil, 0)
	sure(t, l.Append(7, []api.Op{put("\u00e1\u0323", "\u00e1")}))
	entries := []api.Entry{{Norm: "a\u0323\u0301", Seq: 7, Kind: api.KPut, Spelling: "\u00e1\u0323", Value: "\u00e1"}}
	wantReplay(t, "one group", f, 3, entries, 1)
	sure(t, l.Append(8, []api.Op{del("\u212b"), put("A\u030a", ""), put("\ud55c", "\xff")}))
	entries = append(entries,
		api.Entry{Norm: "A\u030a", Seq: 8, Kind: api.KDel, Spelling: "\u212b"},
		api.Entry{Norm: "A\u030a", Seq: 9, Kind: api.KPut, Spelling: "A\u030a"},
		api.Entry{Norm: "\u1112\u1161\u11ab", Seq: 10, Kind: api.KPut, Spelling: "\ud55c", Value: "\xff"})
	wantReplay(t, "two groups", f, 3, entries, 2)
	sure(t, l.Append(most, []api.Op{del("a")}), l.Append(1, []api.Op{del("a")}))
	entries = append(entries,
		api.Entry{Norm: "a", Seq: most, Kind: api.KDel, Spelling: "a"},
		api.Entry{Norm: "a", Seq: 1, Kind: api.KDel, Spelling: "a"})
	wantReplay(t, "four groups", f, 3, entries, 4)
}

// several is a log of groups of many sizes: some within a block, one behind
// zeros, one behind a head alone, one over blocks.
func several() *written {
	w := &written{}
	for i, ops := range [][]api.Op{some(), filling(169), {del("b")}, {put("\u00c5", vs(600))}, filling(78), {put("c", vs(20))}, {put("c", vs(250)), del("\u1e69")}} {
		w.add(int64(10*i+1), ops)
	}
	return w
}

func TestSeveralIsWhatItSays(t *testing.T) {
	w := several()
	fillers, alone := 0, 0
	for at := range w.bytes {
		if w.isFiller(at) {
			fillers++
		}
	}
	for _, head := range w.heads {
		if head%256 == 249 {
			alone++
		}
	}
	if fillers == 0 || alone == 0 || len(w.ends) != 7 {
		t.Errorf("%d zeros at a block's end, %d heads without bytes, %d groups: heads %d", fillers, alone, len(w.ends), w.heads)
	}
}

func TestReplayOfALogCutAtEachByte(t *testing.T) {
	w := several()
	for n := range len(w.bytes) + 1 {
		entries, groups := w.front(n)
		wantReplay(t, fmt.Sprintf("cut at %d", n), holding(t, "3.log", w.bytes[:n]), 3, entries, groups)
	}
}

func TestReplayBehindACrashWithAnyTails(t *testing.T) {
	w := several()
	for synced := 0; synced <= len(w.ends); synced += 2 {
		f, l := created(t, 3)
		sure(t, f.SyncDir())
		lasting := 0
		at := 0
		for i, end := range w.ends {
			ops := opsOf(w.entries[at:w.upTo[i]])
			sure(t, l.Append(w.entries[at].Seq, ops))
			at = w.upTo[i]
			if i+1 == synced {
				sure(t, l.Sync())
				lasting = end
			}
		}
		wantFile(t, "the log", f, "3.log", w.bytes)
		for tail := -1; tail <= len(w.bytes)-lasting+1; tail++ {
			entries, groups := w.front(lasting + max(tail, 0))
			wantReplay(t, fmt.Sprintf("%d groups are synced, a tail of %d", synced, tail), f.Crash(0, []int{tail}), 3, entries, groups)
		}
	}
}

// opsOf tells the ops of entries.
func opsOf(entries []api.Entry) []api.Op {
	var ops []api.Op
	for _, e := range entries {
		ops = append(ops, api.Op{Kind: e.Kind, Spelling: e.Spelling, Value: e.Value})
	}
	return ops
}

// wantSpoilt fails unless the log with the byte at that place changed is
// replayed as the chapters have it.
func wantSpoilt(t *testing.T, w *written, at int, x byte) {
	t.Helper()
	f := holding(t, "3.log", w.bytes)
	sure(t, f.Spoil("3.log", at, x))
	what := fmt.Sprintf("byte %d changed by %d", at, x)
	if w.isFiller(at) {
		wantReplay(t, what, f, 3, w.entries, len(w.ends))
		return
	}
	// A length that goes beyond the log, but not beyond its block, is as of a
	// log that was cut off there.
	head, place := w.headAt(at)
	if head >= 0 && (place == 4 || place == 5) {
		size := int(w.bytes[head+4]) + int(w.bytes[head+5])<<8
		end := head + 7 + (size ^ int(x)<<(8*(place-4)))
		if end > len(w.bytes) && end <= head/256*256+256 {
			entries, groups := w.front(head)
			wantReplay(t, what, f, 3, entries, groups)
			return
		}
	}
	wantNothing(t, what, f, 3, api.ErrCorrupt)
}

func TestReplayOfASpoiltByte(t *testing.T) {
	w := several()
	for at := range w.bytes {
		for _, x := range []byte{1, 2, 4, 8, 16, 32, 64, 128, 255} {
			wantSpoilt(t, w, at, x)
		}
		wantSpoilt(t, w, at, w.bytes[at]|1)
	}
	short := &written{}
	short.add(1, some())
	short.add(7, some())
	for at := range short.bytes {
		for x := 1; x < 256; x++ {
			wantSpoilt(t, short, at, byte(x))
		}
	}
}

// noGroups are records that are no groups.
func noGroups() []string {
	ok := group(7, some())
	return []string{
		"", "a", "\x00", "no group", ok[:len(ok)-1], ok[1:], ok + "\x00", ok + ok, "\x00" + ok,
		group(0, some()), group(-1, some()), group(most+1, some()), group(most, some()),
		group(1, nil), group(1, slices.Repeat(some(), 10)[:51]),
		group(1, []api.Op{del("")}), group(1, []api.Op{del("\xff")}),
		group(1, []api.Op{{Kind: 2, Spelling: "a"}}),
		group(1, []api.Op{del(strings.Repeat("k", api.MaxKey+1))}),
		group(1, []api.Op{put("a", vs(api.MaxValue+1))}),
		// A number of more bytes than needed.
		ok[:8] + "\x86\x00" + ok[9:],
	}
}

func TestReplayOfARecordThatIsNoGroup(t *testing.T) {
	for i, record := range noGroups() {
		for _, ahead := range []int{0, 1, 3} {
			for _, behind := range []int{0, 2} {
				w := &written{}
				for k := range ahead {
					w.add(int64(10*k+1), some())
				}
				w.lay(record)
				for k := range behind {
					w.add(int64(10*k+101), some())
				}
				what := fmt.Sprintf("record %d, %d groups ahead of it, %d behind", i, ahead, behind)
				wantNothing(t, what, holding(t, "3.log", w.bytes), 3, api.ErrCorrupt)
				wantNothing(t, what+", an end that is cut off", holding(t, "3.log", w.bytes+"\x01"), 3, api.ErrCorrupt)
			}
		}
	}
}

func TestReplayOfARecordThatIsNoGroupAndIsCutOff(t *testing.T) {
	w := &written{}
	w.add(1, some())
	end := len(w.bytes)
	w.lay("no group")
	for n := end; n < len(w.bytes); n++ {
		wantReplay(t, "a record that is not whole", holding(t, "3.log", w.bytes[:n]), 3, w.entries, 1)
	}
}

func TestReplayOfBytesThatAreNoLog(t *testing.T) {
	w := &written{}
	w.add(1, some())
	record := group(7, some())
	for _, b := range []string{
		"this is no log", zeros(7), zeros(300), vs(300), strings.Repeat("\xff", 300),
		// Kinds that there are not, and those that stand at no place such as this.
		piece(0, record), piece(5, record), piece(3, record), piece(4, record), record,
		piece(2, record[:3]) + piece(1, record[3:]), piece(2, record) + piece(2, record),
		// A sum that is not the piece's.
		zeros(4) + piece(1, record)[4:],
		// A length that goes beyond the block.
		"\x00\x00\x00\x00\xfa\x00\x01" + vs(30), "\x00\x00\x00\x00\xff\xff\x01",
	} {
		wantNothing(t, fmt.Sprintf("%.20q", b), holding(t, "3.log", b), 3, api.ErrCorrupt)
		wantNothing(t, fmt.Sprintf("a group, and %.20q", b), holding(t, "3.log", w.bytes+b), 3, api.ErrCorrupt)
	}
	// Fewer bytes than a head has may be one that was cut off.
	for n := range 7 {
		for _, b := range []string{zeros(n), vs(n)} {
			wantReplay(t, "few bytes", holding(t, "3.log", b), 3, nil, 0)
			wantReplay(t, "a group, and few bytes", holding(t, "3.log", w.bytes+b), 3, w.entries, 1)
		}
	}
}

func TestReplayOfWhatIsNotThere(t *testing.T) {
	f, l := created(t, 3)
	sure(t, l.Append(1, some()), f.Create("log"), f.Create("3"), f.Create("03.log"), f.Create("3.LOG"), f.Create("4.log.log"), f.Create("4.lo"))
	for _, num := range append(append([]int64{4, 30, 33, 1 << 32, 1<<32 + 3, most}, noNums...), 3<<56+3) {
		wantNothing(t, "a file that is not there", f, num, api.ErrNotFound)
		wantNothing(t, "a file system without files", simfs.New(10), num, api.ErrNotFound)
	}
	for _, num := range append(nums, noNums...) {
		wantNothing(t, "no file system", nil, num, api.ErrNotFound)
	}
}

func TestReplayIsNoCallThatFails(t *testing.T) {
	f, l := created(t, 3)
	w := &written{}
	w.add(1, some())
	sure(t, l.Append(1, some()))
	f.Fail(0)
	f.Room(0)
	wantReplay(t, "a call that fails", f, 3, w.entries, 1)
	wantNothing(t, "a call that fails", f, 4, api.ErrNotFound)
	want(t, "the call that fails", l.Sync(), api.ErrIO)
}

func TestNoLog(t *testing.T) {
	var l *Log
	want(t, "a nil *Log: Append", l.Append(1, some()), api.ErrClosed)
	want(t, "a nil *Log: Append", l.Append(most, []api.Op{del("a")}), api.ErrClosed)
	for _, x := range refused() {
		want(t, "a nil *Log: Append of what is no group", l.Append(x.seq, x.ops), api.ErrClosed)
	}
	want(t, "a nil *Log: Sync", l.Sync(), api.ErrClosed)
	if n := l.Size(); n != 0 {
		t.Errorf("P13.1: a nil *Log: Size %d", n)
	}
}

// A Log that Create did not make has no files.
func TestALogWithoutFiles(t *testing.T) {
	l := new(Log)
	if l.Append(1, some()) == api.OK || l.Sync() == api.OK || l.Size() != 0 {
		t.Error("P0.1: a zero Log takes groups")
	}
}

func TestChangesHandedInAreNeitherChangedNorKept(t *testing.T) {
	f, l := created(t, 3)
	w := &written{}
	w.add(1, some())
	room := append(some(), put("spare", "room"), del("left"))
	kept := slices.Clone(room)
	n := len(some())
	sure(t, l.Append(1, room[:n]))
	for _, wrong := range [][]api.Op{room[:0], room[n : n+1 : n+1]} {
		l.Append(0, wrong)
	}
	f.Fail(0)
	want(t, "Append", l.Append(1, room[:n]), api.ErrIO)
	if !slices.Equal(room, kept) {
		t.Error("P0.3: Append changes the changes that were handed in, or their spare room")
	}
	for i := range room {
		room[i] = put("x", "y")
	}
	wantLog(t, "the changes are others now", f, "3.log", l, w.bytes)
	sure(t, l.Append(7, room[:1]))
	w.add(7, room[:1])
	wantLog(t, "the changes are others now", f, "3.log", l, w.bytes)
	wantReplay(t, "the changes are others now", f, 3, w.entries, 2)
}

func TestReplayAnswersNewMemory(t *testing.T) {
	w := several()
	f := holding(t, "3.log", w.bytes)
	other, _, err := Replay(f, 3)
	sure(t, err)
	l, _, err := Replay(f, 3)
	sure(t, err)
	l = l[:cap(l)]
	for i := range l {
		l[i] = api.Entry{Norm: "x", Seq: -1}
	}
	if !slices.Equal(other, w.entries) {
		t.Error("P0.3: who writes into an answer of Replay changes another one")
	}
	wantFile(t, "who writes into an answer", f, "3.log", w.bytes)
	wantReplay(t, "who writes into an answer", f, 3, w.entries, len(w.ends))
	for at := range w.bytes {
		sure(t, f.Spoil("3.log", at, 0xff))
	}
	if !slices.Equal(other, w.entries) {
		t.Error("P0.3: who changes the file changes an answer of Replay")
	}
}

func TestLogsSideBySide(t *testing.T) {
	f, g := simfs.New(api.MaxDisk), simfs.New(api.MaxDisk)
	type place struct {
		files *simfs.FS
		num   int64
	}
	places := []place{{f, 1}, {f, 11}, {f, most}, {g, 1}}
	var logs []*Log
	var all []*written
	for _, p := range places {
		l, err := Create(p.files, p.num)
		sure(t, err)
		logs, all = append(logs, l), append(all, &written{})
	}
	for k := range 60 {
		i := k * k % 7 % len(logs)
		ops := []api.Op{put(fmt.Sprint("k", k), vs(13*k)), del("b")}
		sure(t, logs[i].Append(int64(k+1), ops))
		all[i].add(int64(k+1), ops)
	}
	for i, p := range places {
		wantLog(t, fmt.Sprintf("log %d", i), p.files, Name(p.num), logs[i], all[i].bytes)
		wantReplay(t, fmt.Sprintf("log %d", i), p.files, p.num, all[i].entries, len(all[i].ends))
	}
}

// anyOps are up to four changes of few keys, with values of any length.
func anyOps(r *rand.Rand) []api.Op {
	keys := []string{"a", "b", "\u00e9", "e\u0301", "\u212b"}
	var ops []api.Op
	for range 1 + r.IntN(4) {
		if r.IntN(3) == 0 {
			ops = append(ops, del(keys[r.IntN(len(keys))]))
			continue
		}
		ops = append(ops, put(keys[r.IntN(len(keys))], vs(r.IntN(1+r.IntN(400)))))
	}
	return ops
}

// failedAppend lets a group fail by one of the ways in which groups do.
func failedAppend(t *testing.T, r *rand.Rand, f *simfs.FS, l *Log) {
	t.Helper()
	switch r.IntN(4) {
	case 0:
		f.Fail(0)
		want(t, "a call that fails", l.Append(1, anyOps(r)), api.ErrIO)
	case 1:
		f.Room(f.Used())
		want(t, "no room", l.Append(1, anyOps(r)), api.ErrNoSpace)
		f.Room(api.MaxDisk)
	case 2:
		sure(t, f.Rename("3.log", "x"))
		want(t, "a file that is gone", l.Append(1, anyOps(r)), api.ErrNotFound)
		sure(t, f.Rename("x", "3.log"))
	case 3:
		x := refused()[r.IntN(len(refused()))]
		want(t, "no group", l.Append(x.seq, x.ops), x.err)
	}
}

func TestManySteps(t *testing.T) {
	for seed := range uint64(60) {
		r := rand.New(rand.NewPCG(seed, 13))
		f, l := created(t, 3)
		sure(t, f.SyncDir())
		w, synced := &written{}, 0
		for step := range 50 {
			what := fmt.Sprintf("seed %d, step %d", seed, step)
			switch r.IntN(6) {
			case 0:
				failedAppend(t, r, f, l)
			case 1:
				sure(t, l.Sync())
				synced = len(w.bytes)
			case 2:
				tail := r.IntN(len(w.bytes) + 2)
				entries, groups := w.front(synced + tail)
				wantReplay(t, what+": a crash", f.Crash(0, []int{tail}), 3, entries, groups)
			default:
				seq, ops := r.Int64N(most-10)+1, anyOps(r)
				want(t, what, l.Append(seq, ops), api.OK)
				w.add(seq, ops)
			}
			wantLog(t, what, f, "3.log", l, w.bytes)
			wantReplay(t, what, f, 3, w.entries, len(w.ends))
		}
	}
}

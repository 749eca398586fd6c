package manifest

import (
	"fmt"
	"slices"
	"strings"
	"testing"

	"incipit/api"
	"incipit/reclog"
	"incipit/simfs"
)

// whole is the first record of a manifest of two tables.
func whole() api.Edit {
	return api.Edit{Next: 10, Log: 3, Last: 5, Adds: []api.File{file(2, 0, "a", "z"), file(4, 1, "k", "m")}}
}

func TestLoadOfNothing(t *testing.T) {
	wantLoadError(t, "an empty directory", newDisk(), api.ErrNotFound)
	wantLoadError(t, "a file system without room", simfs.New(0), api.ErrNotFound)
	wantLoadError(t, "a zero file system", &simfs.FS{}, api.ErrNotFound)
	wantLoadError(t, "other files", newDisk("x", "1.log", "2.tab", "current", "Current", "CURRENT.", "CURREN", beside), api.ErrNotFound)
	f, _ := made(t, allKinds()...)
	f.Remove(current)
	wantLoadError(t, "a manifest without CURRENT", f, api.ErrNotFound)
	g, _ := made(t)
	g.Rename(current, "x")
	wantLoadError(t, "CURRENT under another name", g, api.ErrNotFound)
}

func TestLoad(t *testing.T) {
	for i := range len(allKinds()) + 1 {
		f, m := made(t, allKinds()[:i]...)
		want := versionOf(t, append([]api.Edit{{Next: 2}}, allKinds()[:i]...)...)
		before := disk(f)
		// No call that fails, and no room that is not there, is an error of Load's.
		for fail := range 4 {
			f.Fail(fail - 1)
			f.Room(fail * 10000)
			x := load(t, "each kind", f)
			wantVersion(t, "each kind", x, want)
			wantDisk(t, "P21.1: Load", f, before)
			if x.Size() != m.Size() {
				t.Errorf("P21.2: Size is %d, not %d", x.Size(), m.Size())
			}
		}
	}
}

func TestLoadOfALogOfEdits(t *testing.T) {
	// Whoever wrote it: the edits one behind the other.
	more := []api.Edit{{}, add(12), {Dels: []int64{2, 12}}, {Log: 12}, {Adds: []api.File{file(1, 1, "", "j")}}}
	records := []string{encoded(t, whole())}
	for i, e := range more {
		records = append(records, encoded(t, e))
		log, _ := laid(records...)
		f := holding(t, log)
		m := load(t, "a log of edits", f)
		wantVersion(t, "a log of edits", m, versionOf(t, append([]api.Edit{whole()}, more[:i+1]...)...))
		if m.Size() != len(log) {
			t.Errorf("P21.2: Size is %d, not %d", m.Size(), len(log))
		}
		commit(t, "behind a log of edits", m, add(20))
		wantLasts(t, "behind a log of edits", f, *m.Version())
	}
}

func TestLoadOfCurrentThatIsSpoilt(t *testing.T) {
	f, _ := made(t, add(2))
	b, _ := f.Read(current)
	for n := range b {
		write(f, current, string(b[:n]))
		wantLoadError(t, fmt.Sprint("CURRENT cut at ", n), f, api.ErrCorrupt)
	}
	for x := range 256 {
		write(f, current, string(b)+string([]byte{byte(x)}))
		wantLoadError(t, fmt.Sprint("a byte more: ", x), f, api.ErrCorrupt)
		write(f, current, string([]byte{byte(x)})+string(b))
		wantLoadError(t, fmt.Sprint("a byte ahead: ", x), f, api.ErrCorrupt)
	}
	write(f, current, string(b)+string(b))
	wantLoadError(t, "CURRENT twice", f, api.ErrCorrupt)
	write(f, current, string(b))
	for at := range b {
		for x := 1; x < 256; x++ {
			f.Spoil(current, at, byte(x))
			wantLoadError(t, fmt.Sprintf("CURRENT's byte %d changed by %d", at, x), f, api.ErrCorrupt)
			f.Spoil(current, at, byte(x))
		}
	}
	wantVersion(t, "CURRENT as it was", load(t, "CURRENT as it was", f), versionOf(t, api.Edit{Next: 2}, add(2)))
	for _, junk := range []string{"\x00", "1.man", "1.man\n", strings.Repeat("\x00", len(b)), strings.Repeat("\xff", len(b)), strings.Repeat("\x00", 1000)} {
		write(f, current, junk)
		wantLoadError(t, fmt.Sprintf("CURRENT is %.20q", junk), f, api.ErrCorrupt)
	}
}

func TestLoadOfAManifestThatIsNotThere(t *testing.T) {
	f, m := made(t, add(2))
	f.Remove("1.man")
	wantLoadError(t, "no manifest", f, api.ErrCorrupt)
	write(f, "2.man", "")
	write(f, "01.man", "")
	wantLoadError(t, "other manifests", f, api.ErrCorrupt)
	if err := m.Commit(add(3)); err != api.ErrNotFound {
		t.Errorf("P21.2: Commit to a manifest that is not there: %v", err)
	}
	for _, num := range []int64{0, -1, 2, 1 << 50, 1<<50 + 1, 1<<63 - 1, -1 << 63} {
		f, _ := made(t)
		write(f, current, string(pointer(num)))
		wantLoadError(t, fmt.Sprint("CURRENT names ", num), f, api.ErrCorrupt)
	}
}

func TestLoadOfOneRecordThatIsSpoilt(t *testing.T) {
	for _, first := range []api.Edit{{Next: 2}, whole(), {}, {Next: 500, Adds: row(100, 60)}} {
		log, _ := laid(encoded(t, first))
		f := holding(t, log)
		load(t, "one record", f)
		for at := range len(log) {
			for _, x := range []byte{1, 2, 4, 16, 64, 128, 255} {
				f.Spoil("1.man", at, x)
				// Its zeros at a block's end are not looked at.
				if _, n, ok := reclog.Read([]byte(disk(f)["1.man"])); !ok || n == 0 {
					wantLoadError(t, fmt.Sprintf("the byte %d changed by %d", at, x), f, api.ErrCorrupt)
				}
				f.Spoil("1.man", at, x)
			}
		}
		for n := range len(log) {
			write(f, "1.man", log[:n])
			wantLoadError(t, fmt.Sprintf("one record, cut at %d", n), f, api.ErrCorrupt)
		}
	}
}

func TestLoadOfSeveralRecordsThatAreSpoilt(t *testing.T) {
	all := []api.Edit{whole(), add(12), {Log: 12}, {Next: 500, Adds: row(100, 20)}, {Dels: []int64{2}}}
	var records []string
	for _, e := range all {
		records = append(records, encoded(t, e))
	}
	log, ends := laid(records...)
	f := holding(t, log)
	some := map[bool]int{}
	for at := range len(log) {
		for _, x := range []byte{1, 2, 32, 128} {
			f.Spoil("1.man", at, x)
			what := fmt.Sprintf("the byte %d changed by %d", at, x)
			_, n, ok := reclog.Read([]byte(disk(f)["1.man"]))
			some[ok]++
			if i := slices.Index(ends, n); ok && i >= 0 {
				wantVersion(t, what, load(t, what, f), versionOf(t, all[:i+1]...))
			} else {
				wantLoadError(t, what, f, api.ErrCorrupt)
			}
			f.Spoil("1.man", at, x)
		}
	}
	if some[true] == 0 || some[false] < 1000 {
		t.Errorf("P21.1: of the changes %v", some)
	}
	write(f, "1.man", log+"x")
	if m := load(t, "a byte more", f); m.Size() != len(log)+1 {
		t.Errorf("P21.2: Size is %d, not %d", m.Size(), len(log)+1)
	}
	write(f, "1.man", log+strings.Repeat("\x00", 9))
	wantLoadError(t, "zeros more", f, api.ErrCorrupt)
}

func TestLoadOfAnEmptyManifest(t *testing.T) {
	f := holding(t, "")
	wantLoadError(t, "an empty manifest", f, api.ErrCorrupt)
	write(f, "1.man", strings.Repeat("\x00", 256))
	wantLoadError(t, "a manifest of zeros", f, api.ErrCorrupt)
	write(f, "1.man", "junk")
	wantLoadError(t, "a manifest of few bytes", f, api.ErrCorrupt)
	write(f, "1.man", strings.Repeat("junk", 99))
	wantLoadError(t, "a manifest of junk", f, api.ErrCorrupt)
}

func TestLoadOfRecordsThatAreNoEdits(t *testing.T) {
	good := encoded(t, add(12))
	bad := []string{"", "\x00", "x", good + "\x00", good[1:], good[:len(good)-1], strings.Repeat("\xff", 300), strings.Repeat("x", 5000)}
	for _, record := range bad {
		for at := range 4 {
			records := []string{encoded(t, whole()), good, encoded(t, api.Edit{Log: 12})}
			log, _ := laid(slices.Insert(records, at, record)...)
			wantLoadError(t, fmt.Sprintf("the record %d is %.20q", at, record), holding(t, log), api.ErrCorrupt)
		}
		log, _ := laid(record)
		wantLoadError(t, fmt.Sprintf("the one record is %.20q", record), holding(t, log), api.ErrCorrupt)
	}
}

func TestLoadOfEditsThatDoNotApply(t *testing.T) {
	for _, e := range []api.Edit{{Dels: []int64{7}}, {Log: 100}, {Adds: []api.File{file(200, 0, "a", "b")}}, {Adds: []api.File{file(2, 0, "a", "b"), file(2, 1, "a", "b")}}} {
		log, _ := laid(encoded(t, e))
		wantLoadError(t, "one edit does not apply", holding(t, log), api.ErrCorrupt)
		log, _ = laid(encoded(t, e), encoded(t, whole()))
		wantLoadError(t, "the first edit does not apply", holding(t, log), api.ErrCorrupt)
		log, _ = laid(encoded(t, whole()), encoded(t, e), encoded(t, api.Edit{}))
		wantLoadError(t, "the second edit does not apply", holding(t, log), api.ErrCorrupt)
		log, _ = laid(encoded(t, whole()), encoded(t, api.Edit{}), encoded(t, e))
		wantLoadError(t, "the last edit does not apply", holding(t, log), api.ErrCorrupt)
	}
	for _, e := range refused()[2:] {
		if edit := e; len(edit.Adds) > 0 && (edit.Adds[0].Level > 4 || edit.Adds[0].Small > edit.Adds[0].Great) {
			continue
		}
		log, _ := laid(encoded(t, api.Edit{Next: 2}), encoded(t, add(2)), encoded(t, add(3)), encoded(t, e))
		wantLoadError(t, "an edit does not apply: "+shown(e), holding(t, log), api.ErrCorrupt)
	}
}

// wantTorn fails unless Load tells the version behind the edits that are whole,
// and a Commit behind that begins a new manifest.
func wantTorn(t *testing.T, what, log string, all []api.Edit, isTorn bool, e api.Edit) {
	t.Helper()
	f := holding(t, log)
	m := load(t, what, f)
	was := versionOf(t, all...)
	wantVersion(t, what, m, was)
	if m.Size() != len(log) {
		t.Fatalf("P21.2: %s: Size is %d, not %d", what, m.Size(), len(log))
	}
	want, _ := committed(was, e, isTorn)
	num := int64(1)
	if isTorn {
		num = was.Next()
	}
	commit(t, what, m, e)
	wantVersion(t, what, m, want)
	wantManifest(t, what, f, m, num)
	wantLasts(t, what, f, want)
	more := api.Edit{Next: want.Next() + 5, Last: 1 << 40}
	commit(t, what+": one more", m, more)
	wantManifest(t, what+": one more", f, m, num)
	want, _ = committed(want, more, false)
	wantVersion(t, what+": one more", m, want)
	wantLasts(t, what+": one more", f, want)
}

func TestATornEnd(t *testing.T) {
	for _, last := range []api.Edit{add(20), {}, {Next: 500, Adds: row(100, 40)}, {Next: 40, Adds: long(30, 1)}} {
		all := []api.Edit{whole(), add(12), {Log: 12}, last}
		var records []string
		for _, e := range all {
			records = append(records, encoded(t, e))
		}
		log, ends := laid(records...)
		step := 1
		if len(log) > 3000 {
			step = 97
		}
		from := ends[2]
		for n := from; n <= len(log); n += step {
			left := all[:3]
			if n == len(log) {
				left = all
			}
			what := fmt.Sprintf("cut at %d of %d to %d", n, from, len(log))
			isTorn := n > from && n < len(log)
			v := versionOf(t, left...)
			next := v.Next()
			for _, e := range []api.Edit{add(next), {}, {Next: next}, {Next: next + 1}, {Next: next + 100, Log: next + 70, Dels: []int64{4}}, {Last: 9999}} {
				wantTorn(t, what, log[:n], left, isTorn, e)
			}
		}
	}
}

func TestATornEndIsLeftByACrash(t *testing.T) {
	for _, last := range []api.Edit{add(3), {Next: 500, Adds: row(100, 40)}} {
		f, m := made(t, add(2))
		size := m.Size()
		// The Append is done, the Sync is not.
		f.Fail(1)
		if err := m.Commit(last); err != api.ErrIO {
			t.Fatalf("P21.2: Commit: %v", err)
		}
		_, b := theManifest(t, "not synced", f)
		for n := range len(b) - size + 1 {
			c := f.Crash(0, []int{n})
			x := load(t, "a torn end", c)
			want := versionOf(t, api.Edit{Next: 2}, add(2))
			if n == len(b)-size {
				want = versionOf(t, api.Edit{Next: 2}, add(2), last)
			}
			what := fmt.Sprintf("%d bytes of the last edit last", n)
			wantVersion(t, what, x, want)
			next := want.Next()
			commit(t, what, x, add(next), add(next+1))
			want = versionOf(t, want.Edit(), add(next), add(next+1))
			wantVersion(t, what, x, want)
			wantLasts(t, what, c, want)
		}
	}
}

func TestATornEndIsRewritten(t *testing.T) {
	log, ends := laid(encoded(t, whole()), encoded(t, add(12)))
	for n := ends[0] + 1; n < len(log); n++ {
		f := holding(t, log[:n])
		m := load(t, "a torn end", f)
		rewrite(t, "a torn end", m)
		want, _ := rewritten(versionOf(t, whole()))
		wantVersion(t, "a torn end", m, want)
		wantManifest(t, "a torn end", f, m, 10)
		commit(t, "a torn end", m, api.Edit{})
		wantManifest(t, "a torn end", f, m, 10)
		wantLasts(t, "a torn end", f, want)
	}
}

func TestATornEndAndAnEditThatIsRefused(t *testing.T) {
	log, _ := laid(encoded(t, whole()), encoded(t, add(12)))
	f := holding(t, log[:len(log)-1])
	m := load(t, "a torn end", f)
	before, calls := disk(f), f.Calls()
	for _, e := range []api.Edit{{Next: -1}, {Next: 9}, {Log: 10}, {Dels: []int64{3}}} {
		if err := m.Commit(e); err != api.ErrForm {
			t.Errorf("P21.2: Commit of %s: %v", shown(e), err)
		}
	}
	wantVersion(t, "refused", m, versionOf(t, whole()))
	wantDisk(t, "P21.2: refused", f, before)
	if m.Size() != len(log)-1 || f.Calls() != calls {
		t.Errorf("P21.2: Size is %d, not %d; %d calls", m.Size(), len(log)-1, f.Calls()-calls)
	}
	wantTorn(t, "behind one that was refused", log[:len(log)-1], []api.Edit{whole()}, true, add(10))
}

func TestATornEndOfAFullVersion(t *testing.T) {
	log, _ := laid(encoded(t, api.Edit{Next: 1000, Adds: row(1, 200)}), encoded(t, add(1000)))
	wantTorn(t, "200 tables", log[:len(log)-3], []api.Edit{{Next: 1000, Adds: row(1, 200)}}, true, api.Edit{Dels: []int64{1}, Adds: []api.File{file(1, 2, "", "")}})
}

func TestATornEndWhereNextEnds(t *testing.T) {
	last := []api.Edit{{Next: 1 << 50}}
	log, _ := laid(encoded(t, last[0]), encoded(t, api.Edit{Log: 1}))
	f := holding(t, log[:len(log)-1])
	m := load(t, "a torn end", f)
	// There is no number for a manifest of Rewrite's.
	before := disk(f)
	if err := m.Rewrite(); err != api.ErrForm {
		t.Errorf("P21.2: Rewrite where Next can't be more: %v", err)
	}
	wantVersion(t, "Next can't be more", m, versionOf(t, last...))
	wantDisk(t, "P21.2: Next can't be more", f, before)
	for i := range int64(3) {
		last = append(last, api.Edit{Log: i + 2})
		commit(t, "Next can't be more", m, last[i+1])
		wantVersion(t, "Next can't be more", m, versionOf(t, last...))
		wantLasts(t, "Next can't be more", f, versionOf(t, last...))
		// Its end is torn again.
		name, b := theManifest(t, "Next can't be more", f)
		write(f, name, b+string(reclog.Append(len(b), []byte("torn"))[:9]))
		m = load(t, "Next can't be more", f)
	}
}

package version

import (
	"fmt"
	"math"
	"slices"
	"strings"
	"testing"

	"incipit/api"
	"incipit/edit"
)

// file makes a table, whose size differs from that of others.
func file(num int64, level int, small, great string) api.File {
	return api.File{Num: num, Level: level, Size: int(num%1000)*7 + level, Small: small, Great: great}
}

// adds makes an edit of tables that come.
func adds(l ...api.File) api.Edit {
	return api.Edit{Adds: l}
}

// dels makes an edit of tables that go.
func dels(l ...int64) api.Edit {
	return api.Edit{Dels: l}
}

// shown tells the beginning of what may be long, or has any bytes.
func shown(x any) string {
	return fmt.Sprintf("%.300q", fmt.Sprintf("%+v", x))
}

// xs is a text of n bytes.
func xs(n int) string {
	return strings.Repeat("x", n)
}

// anyTexts are texts of every kind, rising by bytes.
func anyTexts() []string {
	return []string{"", "\x00", "Z", "a", "a\x00", "ab", "b", "e\u0301", "z", "\x7f", "\x80", "\xc3", "\u00e9", "\xff", "\xff\xff"}
}

// anyLevels are levels that are there, and some that are none.
func anyLevels() []int {
	return []int{math.MinInt, math.MinInt + 1, -1 << 32, -2, -1, 0, 1, 2, 3, 4, 5, 6, 1 << 32, 1<<32 + 1, math.MaxInt - 1, math.MaxInt}
}

// model is a version as a plain list: tables stand as they came.
type model struct {
	tables          []api.File
	next, log, last int64
}

// newModel is the model of New's.
func newModel() *model {
	return &model{next: 1}
}

// orElse tells n, or where it is 0 the other one.
func orElse(n, other int64) int64 {
	if n != 0 {
		return n
	}
	return other
}

// common tells whether there is a text from a to b that stands from c to d, too:
// the greater of a and c is such a one, if any is.
func common(a, b, c, d string) bool {
	least := a
	if strings.Compare(c, a) > 0 {
		least = c
	}
	return strings.Compare(least, b) <= 0 && strings.Compare(least, d) <= 0
}

// apply changes the model by an edit, by the chapter's words.
func (m *model) apply(e api.Edit) api.Errno {
	if edit.Check(e) != api.OK {
		return api.ErrForm
	}
	w := model{next: orElse(e.Next, m.next), log: orElse(e.Log, m.log), last: orElse(e.Last, m.last)}
	ok := w.next >= m.next && w.log >= m.log && w.last >= m.last && w.log < w.next
	for i, num := range e.Dels {
		ok = ok && slices.ContainsFunc(m.tables, func(f api.File) bool { return f.Num == num }) && !slices.Contains(e.Dels[:i], num)
	}
	for _, f := range m.tables {
		if !slices.Contains(e.Dels, f.Num) {
			w.tables = append(w.tables, f)
		}
	}
	w.tables = append(w.tables, e.Adds...)
	for i, f := range w.tables {
		ok = ok && f.Num < w.next
		for _, g := range w.tables[:i] {
			ok = ok && f.Num != g.Num && !(f.Level > 0 && f.Level == g.Level && common(f.Small, f.Great, g.Small, g.Great))
		}
	}
	if !ok || len(w.tables) > 200 {
		return api.ErrForm
	}
	*m = w
	return api.OK
}

// level tells the tables of a level, each put ahead of the first one that is to
// be told behind it.
func (m *model) level(n int) []api.File {
	var l []api.File
	for _, f := range m.tables {
		if f.Level != n {
			continue
		}
		at := slices.IndexFunc(l, func(g api.File) bool {
			return n == 0 && f.Num > g.Num || n != 0 && strings.Compare(f.Small, g.Small) < 0
		})
		if at < 0 {
			at = len(l)
		}
		l = slices.Insert(l, at, f)
	}
	return l
}

// all tells the tables level by level.
func (m *model) all() []api.File {
	return slices.Concat(m.level(0), m.level(1), m.level(2), m.level(3), m.level(4))
}

// over tells those of a level's tables that have a text in common with a span.
func over(level []api.File, small, great string) []api.File {
	var l []api.File
	for _, f := range level {
		if strings.Compare(small, great) <= 0 && common(f.Small, f.Great, small, great) {
			l = append(l, f)
		}
	}
	return l
}

// some tells at most n of l's texts, from its beginning to its end.
func some(l []string, n int) []string {
	var few []string
	for i := range min(n, len(l)) {
		few = append(few, l[i*len(l)/min(n, len(l))])
	}
	return few
}

// ends are some of the texts at which spans of tables begin or end, and texts
// beside these.
func (m *model) ends() []string {
	var l []string
	for _, f := range m.all() {
		l = append(l, f.Small, f.Great, f.Great+"\x00")
	}
	return append(some(l, 9), "", "b", "\x80", "\xff\xff\xff")
}

// wantFiles fails unless a list of tables is that one.
func wantFiles(t *testing.T, what string, l, want []api.File) {
	t.Helper()
	if !slices.Equal(l, want) {
		t.Fatalf("P20.2: %s: %s, not %s", what, shown(l), shown(want))
	}
}

// wantNumbers fails unless the version tells the three numbers of the model.
func wantNumbers(t *testing.T, what string, v *Version, m *model) {
	t.Helper()
	if v.Next() != m.next || v.Log() != m.log || v.Last() != m.last {
		t.Fatalf("P20.1: %s: Next %d, Log %d, Last %d, not %d, %d, %d", what, v.Next(), v.Log(), v.Last(), m.next, m.log, m.last)
	}
}

// wantTables fails unless the version tells at each level the model's tables.
func wantTables(t *testing.T, what string, v *Version, m *model) {
	t.Helper()
	for _, n := range anyLevels() {
		wantFiles(t, fmt.Sprint(what, ": Level ", n), v.Level(n), m.level(n))
	}
	wantFiles(t, what+": All", v.All(), m.all())
}

// wantOver fails unless Over tells, of each span between the texts, the model's
// tables.
func wantOver(t *testing.T, what string, v *Version, m *model, texts []string) {
	t.Helper()
	for _, n := range []int{math.MinInt, -1, 0, 1, 2, 3, 4, 5, math.MaxInt} {
		level := m.level(n)
		for _, small := range texts {
			for _, great := range texts {
				if l, want := v.Over(n, small, great), over(level, small, great); !slices.Equal(l, want) {
					t.Fatalf("P20.2: %s: Over %d, %.20q, %.20q: %s, not %s", what, n, small, great, shown(l), shown(want))
				}
			}
		}
	}
}

// wantEdit fails unless what Edit tells makes of a New version the model's.
func wantEdit(t *testing.T, what string, v *Version, m *model) {
	t.Helper()
	e := v.Edit()
	if err := edit.Check(e); err != api.OK {
		t.Fatalf("P20.2: %s: Edit tells %s, which Check answers %v", what, shown(e), err)
	}
	w := New()
	if err := w.Apply(e); err != api.OK {
		t.Fatalf("P20.2: %s: Edit tells %s, which a New one answers %v", what, shown(e), err)
	}
	wantNumbers(t, what+": by Edit", w, m)
	wantTables(t, what+": by Edit", w, m)
}

// wantLike fails unless all that the version tells is as the model's.
func wantLike(t *testing.T, what string, v *Version, m *model) {
	t.Helper()
	wantNumbers(t, what, v, m)
	wantTables(t, what, v, m)
	wantOver(t, what, v, m, m.ends())
	wantEdit(t, what, v, m)
}

// pair is a version and its model, to which the same is told.
type pair struct {
	v *Version
	m *model
}

// newPair is a New version and its model.
func newPair() pair {
	return pair{New(), newModel()}
}

// made is a version and its model behind edits that may be.
func made(t *testing.T, edits ...api.Edit) pair {
	t.Helper()
	p := newPair()
	for i, e := range edits {
		p.ok(t, fmt.Sprint("the edit ", i), e)
	}
	return p
}

// apply fails unless Apply answers as the model does, and all that is told then
// is as the model's; it tells the answer.
func (p pair) apply(t *testing.T, what string, e api.Edit) api.Errno {
	t.Helper()
	want := p.m.apply(e)
	if err := p.v.Apply(e); err != want {
		t.Fatalf("P20.1: %s: Apply of %s: %v, not %v", what, shown(e), err, want)
	}
	wantLike(t, what, p.v, p.m)
	return want
}

// ok fails unless e is taken.
func (p pair) ok(t *testing.T, what string, e api.Edit) {
	t.Helper()
	if err := p.apply(t, what, e); err != api.OK {
		t.Fatalf("P20.1: %s: Apply of %s: %v", what, shown(e), err)
	}
}

// refused fails unless e is refused, and nothing changes.
func (p pair) refused(t *testing.T, what string, e api.Edit) {
	t.Helper()
	if err := p.apply(t, what, e); err != api.ErrForm {
		t.Fatalf("P20.1: %s: Apply of %s: %v, not ErrForm", what, shown(e), err)
	}
}

// answered fails unless e is taken, or refused.
func (p pair) answered(t *testing.T, what string, e api.Edit, ok bool) {
	t.Helper()
	if ok {
		p.ok(t, what, e)
	} else {
		p.refused(t, what, e)
	}
}

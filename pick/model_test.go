package pick

import (
	"cmp"
	"fmt"
	"slices"
	"strings"
	"testing"

	"incipit/api"
	"incipit/version"
)

// file makes a table.
func file(num int64, level, size int, small, great string) api.File {
	return api.File{Num: num, Level: level, Size: size, Small: small, Great: great}
}

// shown tells the beginning of what may be long, or has any bytes.
func shown(x any) string {
	return fmt.Sprintf("%.400q", fmt.Sprintf("%+v", x))
}

// anyTexts are texts of every kind, rising by bytes; some begin others.
func anyTexts() []string {
	return []string{"", "\x00", "Z", "a", "a\x00", "ab", "b", "e\u0301", "z", "\x7f", "\x80", "\xff"}
}

// model is the tables of a version, in any order.
type model []api.File

// level tells the tables of a level in the order of their Nums, or of their
// Smalls.
func (m model) level(n int) []api.File {
	var l []api.File
	for _, f := range m {
		if f.Level == n {
			l = append(l, f)
		}
	}
	slices.SortFunc(l, func(f, g api.File) int {
		if n == 0 {
			return cmp.Compare(g.Num, f.Num)
		}
		return strings.Compare(f.Small, g.Small)
	})
	return l
}

// size tells the bytes of a level.
func (m model) size(n int) int {
	sum := 0
	for _, f := range m {
		if f.Level == n {
			sum += f.Size
		}
	}
	return sum
}

// first tells the level that is to be picked; -1: none.
func (m model) first() int {
	switch {
	case len(m.level(0)) > 3:
		return 0
	case m.size(1) > 2000:
		return 1
	case m.size(2) > 8000:
		return 2
	case m.size(3) > 32000:
		return 3
	}
	return -1
}

// ends are all texts at which a table begins or ends, rising.
func ends(l []api.File) []string {
	var texts []string
	for _, f := range l {
		texts = append(texts, f.Small, f.Great)
	}
	slices.Sort(texts)
	return texts
}

// among tells those of a level's tables that have a text in common with the span
// of l: if they have any, then one at which a table begins.
func (m model) among(n int, l []api.File) []api.File {
	span, all := ends(l), ends(m)
	least, greatest := span[0], span[len(span)-1]
	var those []api.File
	for _, f := range m.level(n) {
		if slices.ContainsFunc(all, func(s string) bool {
			return f.Small <= s && s <= f.Great && least <= s && s <= greatest
		}) {
			those = append(those, f)
		}
	}
	return those
}

// next tells the job by the chapter's words.
func (m model) next() (Job, bool) {
	n := m.first()
	if n < 0 {
		return Job{}, false
	}
	j := Job{Level: n, Inputs: m.level(n)}
	if n > 0 {
		slices.SortFunc(j.Inputs, func(f, g api.File) int { return cmp.Compare(f.Num, g.Num) })
		j.Inputs = j.Inputs[:1]
	}
	j.Below = m.among(n+1, j.Inputs)
	further := 0
	for k := n + 2; k <= 4; k++ {
		further += len(m.among(k, append(slices.Clone(j.Inputs), j.Below...)))
	}
	j.Bottom = further == 0
	return j, true
}

// room is a Next that leaves room for the tables.
func (m model) room() int64 {
	most := int64(0)
	for _, f := range m {
		most = max(most, f.Num)
	}
	return most + 1
}

// made makes a version of the tables.
func (m model) made(t *testing.T) *version.Version {
	t.Helper()
	v := version.New()
	if err := v.Apply(api.Edit{Next: m.room(), Adds: m}); err != api.OK {
		t.Fatalf("the tables %s: %v", shown(m), err)
	}
	return v
}

// madeOneByOne makes the same version by an edit a table, the last one first, and
// by tables that went.
func (m model) madeOneByOne(t *testing.T) *version.Version {
	t.Helper()
	v := new(version.Version)
	edits := []api.Edit{{Next: m.room() + 4}}
	for i := range m {
		edits = append(edits, api.Edit{Adds: m[len(m)-1-i : len(m)-i]})
	}
	if len(m) < 197 {
		gone := file(m.room(), 0, 1<<24, "", "\xff")
		edits = append(edits, api.Edit{Adds: []api.File{gone}}, api.Edit{Dels: []int64{gone.Num}})
	}
	for _, e := range edits {
		if err := v.Apply(e); err != api.OK {
			t.Fatalf("the tables %s: %v", shown(m), err)
		}
	}
	return v
}

// like tells whether two jobs are alike.
func like(j, k Job) bool {
	return j.Level == k.Level && j.Bottom == k.Bottom && slices.Equal(j.Inputs, k.Inputs) && slices.Equal(j.Below, k.Below)
}

// wantJob fails unless Next answers so, twice, and changes nothing of v.
func wantJob(t *testing.T, what string, v *version.Version, want Job, wantOK bool) {
	t.Helper()
	was := v.Edit()
	for range 2 {
		j, ok := Next(v)
		if ok != wantOK || !like(j, want) {
			t.Fatalf("P22.1: %s: Next: %s, %t, not %s, %t, of %s", what, shown(j), ok, shown(want), wantOK, shown(was.Adds))
		}
	}
	wantUnchanged(t, what, v, was)
}

// wantUnchanged fails unless v tells what it told.
func wantUnchanged(t *testing.T, what string, v *version.Version, was api.Edit) {
	t.Helper()
	now := v.Edit()
	if now.Next != was.Next || now.Log != was.Log || now.Last != was.Last || !slices.Equal(now.Adds, was.Adds) {
		t.Fatalf("P22.1: %s: the version is %s now, and was %s", what, shown(now), shown(was))
	}
}

// wantSizes fails unless Size answers of each level as the model does, twice.
func wantSizes(t *testing.T, what string, v *version.Version, m model) {
	t.Helper()
	was := v.Edit()
	for _, n := range anyLevels() {
		for range 2 {
			if size := Size(v, n); size != m.size(n) {
				t.Fatalf("P22.1: %s: Size of %d is %d, not %d", what, n, size, m.size(n))
			}
		}
	}
	wantUnchanged(t, what, v, was)
}

// wantAsModel fails unless a version of the tables, however it was made, answers
// as the model; it tells the job.
func (m model) wantAsModel(t *testing.T, what string) (Job, bool) {
	t.Helper()
	j, ok := m.next()
	for _, v := range []*version.Version{m.made(t), m.madeOneByOne(t)} {
		wantJob(t, what, v, j, ok)
		wantSizes(t, what, v, m)
	}
	return j, ok
}

// wantNone fails unless there is nothing to compact.
func (m model) wantNone(t *testing.T, what string) {
	t.Helper()
	if j, ok := m.wantAsModel(t, what); ok {
		t.Fatalf("P22.1: %s: the model tells %s", what, shown(j))
	}
}

// wantNums fails unless the tables' job is of those numbers.
func (m model) wantNums(t *testing.T, what string, level int, inputs, below []int64, bottom bool) {
	t.Helper()
	j, ok := m.wantAsModel(t, what)
	if !ok || j.Level != level || j.Bottom != bottom || !slices.Equal(nums(j.Inputs), inputs) || !slices.Equal(nums(j.Below), below) {
		t.Fatalf("P22.1: %s: %s, %t, not %d, %v, %v, %t", what, shown(j), ok, level, inputs, below, bottom)
	}
}

// nums are the numbers of tables.
func nums(l []api.File) []int64 {
	var all []int64
	for _, f := range l {
		all = append(all, f.Num)
	}
	return all
}

// full are tables, from the number 1 on, which have their level picked: of level
// 0 four, each with the span from small to great, of another one that has it.
func full(level int, small, great string) model {
	if level > 0 {
		return model{file(1, level, 40000, small, great)}
	}
	var m model
	for i := range 4 {
		m = append(m, file(int64(i+1), 0, 1, small, great))
	}
	return m
}

// fullNums are the numbers of full's Inputs.
func fullNums(level int) []int64 {
	if level > 0 {
		return []int64{1}
	}
	return []int64{4, 3, 2, 1}
}

package pick

import (
	"fmt"
	"math"
	"strings"
	"testing"

	"incipit/api"
	"incipit/version"
)

// anyLevels are levels that are there, and some that are none.
func anyLevels() []int {
	return []int{math.MinInt, math.MinInt + 1, -1 << 32, -2, -1, 0, 1, 2, 3, 4, 5, 6, 1 << 32, 1<<32 + 1, math.MaxInt - 1, math.MaxInt}
}

// wantSize fails unless Size answers n.
func wantSize(t *testing.T, what string, v *version.Version, level, n int) {
	t.Helper()
	if size := Size(v, level); size != n {
		t.Fatalf("P22.1: %s: Size of %d is %d, not %d", what, level, size, n)
	}
}

func TestSizeOfEachLevel(t *testing.T) {
	m := model{
		file(1, 0, 1, "a", "b"), file(2, 0, 2, "a", "b"), file(3, 0, 4, "", ""),
		file(4, 1, 8, "a", "b"),
		file(5, 2, 16, "c", "d"), file(6, 2, 32, "a", "b"),
		file(7, 3, 64, "a", "b"), file(8, 3, 0, "c", "d"),
		file(9, 4, 128, "a", "b"), file(10, 4, 256, "c", "c"), file(11, 4, 512, "", ""),
	}
	for level, n := range []int{7, 8, 48, 64, 896} {
		wantSize(t, "tables at each level", m.made(t), level, n)
		wantSize(t, "tables at each level", m.madeOneByOne(t), level, n)
	}
	for _, level := range []int{math.MinInt, -1 << 32, -2, -1, 5, 6, 1 << 32, math.MaxInt} {
		wantSize(t, "no such level", m.made(t), level, 0)
	}
	m.wantAsModel(t, "tables at each level")
}

func TestSizeOfALevelWithoutTables(t *testing.T) {
	for level := range 5 {
		m := model{file(1, level, 77, "a", "b")}
		v := m.made(t)
		for _, n := range anyLevels() {
			if n != level {
				wantSize(t, fmt.Sprint("tables at ", level), v, n, 0)
			}
		}
		wantSize(t, "the one that has a table", v, level, 77)
		if err := v.Apply(api.Edit{Dels: []int64{1}}); err != api.OK {
			t.Fatal(err)
		}
		wantSize(t, "its table went", v, level, 0)
	}
}

func TestSizesOfNothing(t *testing.T) {
	var m model
	for i := range 15 {
		text := fmt.Sprintf("k%02d", i)
		m = append(m, file(int64(i+1), i%5, 0, text, text))
	}
	for _, n := range anyLevels() {
		wantSize(t, "all sizes are 0", m.made(t), n, 0)
	}
	m.wantNone(t, "all sizes are 0")
	m = append(m, file(99, 0, 0, "a", "b"))
	m.wantNums(t, "all sizes are 0, four of level 0", 0, []int64{99, 11, 6, 1}, []int64{2, 7}, false)
}

func TestSizeOfManyTables(t *testing.T) {
	for level := range 5 {
		var m model
		sum := 0
		for i := range 200 {
			text := fmt.Sprintf("k%03d", i)
			m = append(m, file(int64(i+1), level, i*i, text, text))
			sum += i * i
		}
		wantSize(t, "many tables", m.made(t), level, sum)
		m.wantAsModel(t, "many tables")
		for i := range m {
			m[i].Size = 1 << 24
		}
		wantSize(t, "many of the greatest tables", m.made(t), level, 200<<24)
		m.wantAsModel(t, "many of the greatest tables")
	}
}

func TestSizeOfNilAndNewVersions(t *testing.T) {
	for _, n := range anyLevels() {
		wantSize(t, "a nil *Version", nil, n, 0)
		wantSize(t, "a New one", version.New(), n, 0)
		wantSize(t, "a zero one", new(version.Version), n, 0)
	}
}

func TestSizeIsThatOfTheTablesAlone(t *testing.T) {
	// Neither texts nor numbers count.
	m := model{file(1<<40, 1, 5, "a", strings.Repeat("b", 13000)), file(3, 1, 6, "c", strings.Repeat("d", 13000))}
	wantSize(t, "long texts", m.made(t), 1, 11)
	m.wantNone(t, "long texts")
}

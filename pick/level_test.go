package pick

import (
	"fmt"
	"testing"

	"incipit/api"
	"incipit/version"
)

// parted are n tables of a level, from the number first on, of size bytes
// together, which have no text in common.
func parted(first int64, level, n, size int) model {
	var m model
	for i := range n {
		text := fmt.Sprintf("p%d-%03d", level, i)
		part := size / n
		if i == n/2 {
			part += size % n
		}
		m = append(m, file(first+int64(i), level, part, text, text+"x"))
	}
	return m
}

// met are n tables of level 0, from the number first on, which have all in
// common.
func met(first int64, n, size int) model {
	var m model
	for i := range n {
		m = append(m, file(first+int64(i), 0, size, "a", "b"))
	}
	return m
}

// falling are n numbers from most on.
func falling(most int64, n int) []int64 {
	var l []int64
	for i := range n {
		l = append(l, most-int64(i))
	}
	return l
}

func TestNothingToPick(t *testing.T) {
	for what, v := range map[string]*version.Version{"a New version": version.New(), "a zero one": new(version.Version), "a nil one": nil} {
		j, ok := Next(v)
		if ok || j.Level != 0 || len(j.Inputs) != 0 || len(j.Below) != 0 || j.Bottom {
			t.Errorf("P22.1: %s: Next: %s, %t", what, shown(j), ok)
		}
	}
	model{}.wantNone(t, "no tables")
	v := append(met(1, 9, 9999), parted(20, 1, 9, 9999)...).made(t)
	if err := v.Apply(api.Edit{Dels: append(falling(9, 9), falling(28, 9)...)}); err != api.OK {
		t.Fatal(err)
	}
	wantJob(t, "all tables went", v, Job{}, false)
}

func TestHowManyTablesOfLevel0(t *testing.T) {
	for _, n := range []int{0, 1, 2, 3, 4, 5, 6, 16, 199, 200} {
		for _, size := range []int{0, 1, 2000, 2001, 1 << 24} {
			m := met(1, n, size)
			what := fmt.Sprint(n, " tables of level 0, of ", size, " bytes")
			if n < 4 {
				m.wantNone(t, what)
				continue
			}
			m.wantNums(t, what, 0, falling(int64(n), n), nil, true)
		}
	}
	m := append(met(1, 3, 1<<24), parted(10, 1, 4, 2000)...)
	m.wantNone(t, "three of level 0, more of level 1")
	parted(1, 4, 100, 100).wantNone(t, "many of level 4")
	parted(1, 1, 100, 100).wantNone(t, "many small ones of level 1")
}

func TestBoundOfEachLevel(t *testing.T) {
	for level, bound := range map[int]int{1: 2000, 2: 8000, 3: 32000} {
		for _, n := range []int{1, 2, 3, 7, 100} {
			for _, size := range []int{0, 1, bound/4 + 1, bound - 1, bound} {
				parted(5, level, n, size).wantNone(t, fmt.Sprint(n, " tables of level ", level, ", ", size, " bytes"))
			}
			for _, size := range []int{bound + 1, bound + 2, 2 * bound, 4*bound + 1, 1 << 24} {
				what := fmt.Sprint(n, " tables of level ", level, ", ", size, " bytes")
				parted(5, level, n, size).wantNums(t, what, level, []int64{5}, nil, true)
			}
		}
		m := parted(5, level, 150, 150<<24)
		m.wantNums(t, "the greatest sizes", level, []int64{5}, nil, true)
	}
}

func TestBoundByATableOfNothing(t *testing.T) {
	for level, bound := range map[int]int{1: 2000, 2: 8000, 3: 32000} {
		m := model{file(9, level, bound, "a", "b"), file(8, level, 0, "c", "d"), file(7, level, 0, "", "")}
		m.wantNone(t, "just at the bound")
		m[2].Size = 1
		m.wantNums(t, "one byte more", level, []int64{7}, nil, true)
	}
}

func TestTheLastLevelMayHaveAnySize(t *testing.T) {
	for _, n := range []int{1, 4, 200} {
		for _, size := range []int{0, 1, 2000, 32001, 128000, 128001, 1 << 24, n << 24} {
			parted(1, 4, n, size).wantNone(t, fmt.Sprint(n, " tables of the last level, ", size, " bytes"))
		}
	}
}

func TestAllLevelsJustAtTheirBounds(t *testing.T) {
	var m model
	m = append(m, met(1, 3, 1<<24)...)
	m = append(m, parted(10, 1, 3, 2000)...)
	m = append(m, parted(20, 2, 3, 8000)...)
	m = append(m, parted(30, 3, 3, 32000)...)
	m = append(m, parted(40, 4, 3, 1<<24)...)
	m.wantNone(t, "all just at their bounds")
	for level, i := range []int{0, 3, 6, 9} {
		l := append(model{}, m...)
		if level == 0 {
			l = append(l, file(4, 0, 0, "a", "b"))
		} else {
			l[i].Size++
		}
		j, ok := l.wantAsModel(t, "one is full")
		if !ok || j.Level != level {
			t.Fatalf("P22.1: level %d alone is full, and the level %d is picked, %t", level, j.Level, ok)
		}
	}
}

func TestTheFirstFullLevelIsPicked(t *testing.T) {
	// Of each level either nothing, or what it may have, or a little or much more.
	tables := [][]int{{0, 3, 4, 30}, {0, 2000, 2001, 1 << 22}, {0, 8000, 8001, 1 << 23}, {0, 32000, 32001, 1 << 24}}
	for i := range 256 {
		k := []int{i & 3, i >> 2 & 3, i >> 4 & 3, i >> 6}
		m := met(1, tables[0][k[0]], 50)
		want := -1
		for level := 3; level >= 0; level-- {
			if level > 0 && k[level] > 0 {
				m = append(m, parted(int64(100*level), level, 3, tables[level][k[level]])...)
			}
			if k[level] > 1 {
				want = level
			}
		}
		m = append(m, parted(400, 4, 3, 3<<24)...)
		what := fmt.Sprint("full in turn ", k)
		if want < 0 {
			m.wantNone(t, what)
			continue
		}
		if j, ok := m.wantAsModel(t, what); !ok || j.Level != want {
			t.Fatalf("P22.1: %s: the level %d is picked, %t, not %d", what, j.Level, ok, want)
		}
	}
}

func TestWhatTheOtherLevelsHaveDoesNotCount(t *testing.T) {
	// Not all sizes together, nor those of a level and the next.
	m := append(parted(10, 1, 3, 1999), parted(20, 2, 3, 7999)...)
	m = append(m, parted(30, 3, 3, 31999)...)
	m = append(m, parted(40, 4, 100, 1<<24)...)
	m = append(m, met(1, 3, 1<<24)...)
	m.wantNone(t, "each below its bound")
}

func TestTablesOfGreatNums(t *testing.T) {
	// Room is left for a table that went.
	const most = 1<<50 - 9
	for level := 1; level < 4; level++ {
		m := model{file(most-1, level, 1<<24, "a", "b"), file(most-2, level, 1<<24, "c", "d"), file(1<<32+1, level, 9, "e", "f"), file(1<<33, level, 9, "g", "h")}
		m.wantNums(t, "great numbers", level, []int64{1<<32 + 1}, nil, true)
		m = m[:2]
		m.wantNums(t, "the greatest numbers", level, []int64{most - 2}, nil, true)
	}
	m := met(most-4, 4, 9)
	m.wantNums(t, "the greatest numbers", 0, falling(most-1, 4), nil, true)
}

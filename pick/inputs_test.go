package pick

import (
	"fmt"
	"slices"
	"testing"

	"incipit/api"
)

// permuted calls do with each order of l.
func permuted[T any](l []T, do func(l []T)) {
	var put func(front, rest []T)
	put = func(front, rest []T) {
		if len(rest) == 0 {
			do(front)
		}
		for i, x := range rest {
			put(append(slices.Clone(front), x), slices.Delete(slices.Clone(rest), i, i+1))
		}
	}
	put(nil, l)
}

func TestInputsOfLevel0AreAll(t *testing.T) {
	spans := [][2]string{{"k", "l"}, {"", "a"}, {"\xff", "\xff"}, {"b", "z"}, {"l", "m"}}
	permuted([]int64{7, 2, 5, 90, 11}, func(l []int64) {
		var m model
		for i, num := range l {
			m = append(m, file(num, 0, 100*i, spans[i][0], spans[i][1]))
		}
		m.wantNums(t, "five of level 0", 0, []int64{90, 11, 7, 5, 2}, nil, true)
	})
}

func TestInputsOfLevel0WithoutACommonText(t *testing.T) {
	m := model{file(1, 0, 1, "a", "b"), file(4, 0, 1, "d", "e"), file(3, 0, 1, "x", "y"), file(2, 0, 1, "", ""), file(5, 1, 1, "m", "n")}
	m.wantNums(t, "four that are apart", 0, []int64{4, 3, 2, 1}, []int64{5}, true)
}

func TestInputsOfAnotherLevelAreTheTableOfTheLeastNum(t *testing.T) {
	spans := [][2]string{{"b", "d"}, {"\x80", "\xc3"}, {"", "a"}, {"m", "m"}, {"mm", "n"}}
	for level := 1; level < 4; level++ {
		permuted([]int64{3, 10, 255, 256, 1 << 40}, func(l []int64) {
			var m model
			for i, num := range l {
				m = append(m, file(num, level, 32001-i, spans[i][0], spans[i][1]))
			}
			m.wantNums(t, fmt.Sprint("five of level ", level), level, []int64{3}, nil, true)
		})
	}
}

func TestTheInputMayBeSmall(t *testing.T) {
	// What makes the level full is another table than the one that goes.
	for level := 1; level < 4; level++ {
		for _, size := range []int{0, 1, 40000} {
			m := model{file(8, level, 40000, "a", "b"), file(7, level, size, "c", "d"), file(9, level, 1<<24, "e", "f")}
			m.wantNums(t, "a small one", level, []int64{7}, nil, true)
		}
	}
}

func TestNumsOfOtherLevelsDoNotCount(t *testing.T) {
	for level := 1; level < 4; level++ {
		m := model{file(80, level, 40000, "a", "b"), file(70, level, 0, "m", "n")}
		for n := range 5 {
			if n != level {
				m = append(m, file(int64(n+1), n, 1, "x", "y"), file(int64(n+90), n, 1, "z", "z"))
			}
		}
		m.wantNums(t, fmt.Sprint("level ", level), level, []int64{70}, nil, true)
	}
	m := append(met(50, 4, 1), file(1, 1, 1, "x", "y"), file(2, 2, 1, "x", "y"), file(99, 3, 1, "x", "y"))
	m.wantNums(t, "level 0", 0, []int64{53, 52, 51, 50}, nil, true)
}

func TestEachFieldOfATableIsTold(t *testing.T) {
	m := model{
		{Num: 9, Level: 2, Size: 8001, Small: "b", Great: "e\u0301"},
		{Num: 7, Level: 3, Size: 1 << 24, Small: "", Great: "b"},
		{Num: 1 << 40, Level: 3, Size: 0, Small: "e\u0300", Great: "\xff\x00"},
	}
	wantJob(t, "each field", m.made(t), Job{Level: 2, Inputs: []api.File{m[0]}, Below: []api.File{m[1], m[2]}, Bottom: true}, true)
}

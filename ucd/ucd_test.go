package ucd

import (
	"fmt"
	"math"
	"slices"
	"strconv"
	"strings"
	"testing"

	"incipit/api"
)

// tables reads both of api's tables whole, by another way than the package.
func tables(t *testing.T) (map[int]int, map[int][]int) {
	t.Helper()
	classes, maps := map[int]int{}, map[int][]int{}
	for _, f := range fields(api.Classes) {
		for c := parse(t, f[0], 16); c <= parse(t, f[1], 16); c++ {
			classes[c] = parse(t, f[2], 10)
		}
	}
	for _, f := range fields(api.Maps) {
		c := parse(t, f[0], 16)
		for _, to := range f[1:] {
			maps[c] = append(maps[c], parse(t, to, 16))
		}
	}
	return classes, maps
}

// fields are a table's lines, taken apart.
func fields(table string) [][]string {
	var l [][]string
	for _, line := range strings.Split(strings.TrimSpace(table), "\n") {
		l = append(l, strings.Fields(line))
	}
	return l
}

func parse(t *testing.T, s string, base int) int {
	t.Helper()
	n, err := strconv.ParseInt(s, base, 64)
	if err != nil {
		t.Fatal(err)
	}
	return int(n)
}

// wantClass fails unless Class tells class of c.
func wantClass(t *testing.T, c, class int) {
	t.Helper()
	if got := Class(c); got != class {
		t.Errorf("P2.1: Class(%X): %d, not %d", c, got, class)
	}
}

// wantMap fails unless Map tells l of c, nil where l is nil.
func wantMap(t *testing.T, c int, l []int) {
	t.Helper()
	if got := Map(c); !slices.Equal(got, l) || (got == nil) != (l == nil) {
		t.Errorf("P2.1: Map(%X): %X, not %X", c, got, l)
	}
}

// noChars are numbers that are no character's, some of them one of the tables'
// if the sign goes or they are cut to fewer bits.
func noChars() []int {
	return []int{
		-1, -0xC0, -0x300, -0x345, -0x2F800, math.MinInt, math.MinInt + 0xC0,
		math.MinInt + 0x300, math.MinInt32, 0xD800, 0xDBFF, 0xDC00, 0xDFFF,
		0x110000, 0x110300, 0x1000C0, 0x12F800, math.MaxInt32, 1<<16 + 0x10FFFF,
		1<<32 + 0xC0, 1<<32 + 0x300, 1<<40 + 0x1D165, 1 << 50, -1 << 50,
		math.MaxInt, math.MaxInt - 0xFF,
	}
}

func TestEveryNumber(t *testing.T) {
	classes, maps := tables(t)
	for c := -0x400; c < 0x120000; c++ {
		if Class(c) != classes[c] {
			t.Fatalf("P2.1: Class(%X): %d, not %d", c, Class(c), classes[c])
		}
		if l := Map(c); !slices.Equal(l, maps[c]) || (l == nil) != (maps[c] == nil) {
			t.Fatalf("P2.1: Map(%X): %X, not %X", c, l, maps[c])
		}
	}
}

func TestClass(t *testing.T) {
	for c, class := range map[int]int{
		0x301: 230, 0x308: 230, 0x31B: 216, 0x323: 220, 0x327: 202, 0x338: 1,
		0x345: 240, 0x5B4: 14, 0x654: 230, 0x93C: 7, 0x94D: 9, 0x3099: 8,
		0: 0, 'a': 0, 'A': 0, 0xC0: 0, 0x3B1: 0, 0x4E00: 0, 0x1F600: 0, 0x10FFFF: 0,
	} {
		wantClass(t, c, class)
	}
}

func TestEdgesOfRanges(t *testing.T) {
	for c, class := range map[int]int{
		// The first line, the last one, and what lies beside them.
		0x2FF: 0, 0x300: 230, 0x1D16E: 216, 0x1D16F: 0,
		// Where one line ends and the next begins.
		0x314: 230, 0x315: 232, 0x316: 220, 0x319: 220, 0x31A: 232, 0x31C: 220,
		0x320: 220, 0x321: 202, 0x322: 202, 0x326: 220, 0x328: 202, 0x329: 220,
		0x333: 220, 0x334: 1, 0x339: 220, 0x33C: 220, 0x33D: 230, 0x344: 230,
		0x346: 230, 0x347: 220, 0x349: 220,
		// Where a gap follows one, or lies ahead of one.
		0x34A: 0, 0x5AF: 0, 0x5B0: 10, 0x5B1: 0, 0x5B3: 0, 0x5B5: 0, 0x5BB: 0,
		0x5BC: 21, 0x5BD: 0, 0x5C0: 0, 0x5C1: 24, 0x5C2: 25, 0x5C3: 0,
		0x64A: 0, 0x64B: 27, 0x64C: 0, 0x650: 0, 0x651: 33, 0x652: 0,
		0x653: 230, 0x655: 220, 0x656: 0, 0x66F: 0, 0x670: 35, 0x671: 0,
		0x93B: 0, 0x93D: 0, 0x94C: 0, 0x94E: 0, 0x3098: 0, 0x309A: 8, 0x309B: 0,
		0x1D164: 0, 0x1D165: 216, 0x1D166: 0, 0x1D16D: 0,
	} {
		wantClass(t, c, class)
	}
}

func TestMap(t *testing.T) {
	for _, l := range [][]int{
		// One, two, three, four characters.
		{0x212A, 0x4B}, {0x2126, 0x3A9}, {0xF900, 0x8C48}, {0x2000, 0x2002},
		{0xE9, 0x65, 0x301}, {0x344, 0x308, 0x301}, {0x304C, 0x304B, 0x3099},
		{0x1E0, 0x41, 0x307, 0x304}, {0x390, 0x3B9, 0x308, 0x301},
		{0x1D160, 0x1D158, 0x1D165, 0x1D16E}, {0x1F82, 0x3B1, 0x313, 0x300, 0x345},
		// The first line and the last one.
		{0xC0, 0x41, 0x300}, {0x2F800, 0x4E3D},
	} {
		wantMap(t, l[0], l[1:])
	}
}

func TestMapOfItself(t *testing.T) {
	for _, c := range []int{
		0, 'a', 'A', 0x7F, 0xBF, 0xC6, 0xD0, 0xD7, 0xDE, 0xF0, 0xFE, 0x106,
		0x300, 0x301, 0x308, 0x345, 0x3099, 0x2002, 0x3A9, 0x4E00, 0x8C48,
		0xF8FF, 0xF901, 0x1D165, 0x2F7FF, 0x2F801, 0x1F600, 0x10FFFF,
	} {
		wantMap(t, c, nil)
	}
}

func TestSyllables(t *testing.T) {
	for _, c := range []int{0x1100, 0x1161, 0x11A7, 0x11A8, 0xABFF, 0xAC00, 0xAC01, 0xBCF4, 0xD7A3, 0xD7A4} {
		wantMap(t, c, nil)
		wantClass(t, c, 0)
	}
}

func TestNoChars(t *testing.T) {
	for _, c := range noChars() {
		wantMap(t, c, nil)
		wantClass(t, c, 0)
	}
}

// The search by halves hangs on it that each line lies behind the one ahead.
func TestLinesRise(t *testing.T) {
	last := -1
	for _, f := range fields(api.Classes) {
		if len(f) != 3 || parse(t, f[0], 16) <= last || parse(t, f[1], 16) < parse(t, f[0], 16) {
			t.Errorf("api.Classes: %v does not lie behind %X", f, last)
		}
		last = parse(t, f[1], 16)
	}
	last = -1
	for _, f := range fields(api.Maps) {
		if len(f) < 2 || parse(t, f[0], 16) <= last {
			t.Errorf("api.Maps: %v does not lie behind %X", f, last)
		}
		last = parse(t, f[0], 16)
	}
}

// Map answers one line's characters, and this is the end only if they come to
// themselves.
func TestMapsAreTheEnd(t *testing.T) {
	_, maps := tables(t)
	for c, l := range maps {
		for _, to := range l {
			if Map(to) != nil {
				t.Errorf("P2.1: Map(%X): %X, of which %X goes on", c, l, to)
			}
		}
	}
}

func TestAnswersAreNewMemory(t *testing.T) {
	for _, c := range []int{0xC0, 0x212A, 0x1E0, 0x1F82} {
		first, second := Map(c), Map(c)
		want := fmt.Sprint(second)
		whole := first[:cap(first)]
		for i := range whole {
			whole[i] = -7
		}
		if third := Map(c); fmt.Sprint(second) != want || fmt.Sprint(third) != want {
			t.Errorf("P0.3: Map(%X): %v, %v, not %v", c, second, third, want)
		}
	}
}

func TestSameAnswerAgain(t *testing.T) {
	for _, c := range []int{-1, 'a', 0xC0, 0x301, 0x1D165, 0xAC00, math.MaxInt} {
		class, l := Class(c), Map(c)
		Class(0x345)
		Map(0x1F82)
		if Class(c) != class || !slices.Equal(Map(c), l) {
			t.Errorf("P0.5: %X is answered otherwise the second time", c)
		}
	}
}

func BenchmarkClass(b *testing.B) {
	for b.Loop() {
		Class(0x4E00)
	}
}

func BenchmarkMap(b *testing.B) {
	for b.Loop() {
		Map(0x4E00)
	}
}

package pick

import (
	"fmt"
	"testing"
)

// wantBottom fails unless the tables' job, which is to be of that level, tells so
// of the levels below the next one; with those tables at any of them.
func wantBottom(t *testing.T, what string, level int, upper model, further [][2]string, bottom bool) {
	t.Helper()
	for n := level + 2; n < 5; n++ {
		m := append(append(model{}, upper...), spans(80, n, further...)...)
		j, ok := m.wantAsModel(t, what)
		if !ok || j.Level != level || j.Bottom != bottom {
			t.Fatalf("P22.1: %s, at %d: %s, %t, not %d, %t", what, n, shown(j), ok, level, bottom)
		}
	}
}

func TestBottomWithoutTablesFurtherBelow(t *testing.T) {
	for level := range 4 {
		m := full(level, "f", "m")
		m.wantNums(t, fmt.Sprint("no tables below level ", level), level, fullNums(level), nil, true)
		m = append(m, file(50, level+1, 9, "a", "g"), file(51, level+1, 9, "h", "z"))
		m.wantNums(t, fmt.Sprint("tables of the next level alone, below level ", level), level, fullNums(level), []int64{50, 51}, true)
	}
}

func TestBottomByInputsAlone(t *testing.T) {
	type list = [][2]string
	for _, x := range []struct {
		what         string
		small, great string
		further      list
		bottom       bool
	}{
		{"outside, below", "f", "m", list{{"a", "b"}}, true},
		{"outside, above", "f", "m", list{{"y", "z"}}, true},
		{"outside, both", "f", "m", list{{"a", "b"}, {"y", "z"}, {"", ""}}, true},
		{"just beside, below", "f", "m", list{{"a", "e\xff\xff"}}, true},
		{"just beside, above", "f", "m", list{{"m\x00", "z"}}, true},
		{"touching below", "f", "m", list{{"a", "f"}}, false},
		{"touching above", "f", "m", list{{"m", "z"}}, false},
		{"the least text alone", "f", "m", list{{"f", "f"}}, false},
		{"the greatest text alone", "f", "m", list{{"m", "m"}}, false},
		{"within", "f", "m", list{{"k", "l"}}, false},
		{"holding all", "f", "m", list{{"a", "z"}}, false},
		{"the same span", "f", "m", list{{"f", "m"}}, false},
		{"one within, among others", "f", "m", list{{"a", "b"}, {"y", "z"}, {"g", "g"}, {"c", "d"}}, false},
		{"the empty text", "", "", list{{"", ""}}, false},
		{"from the empty text on", "", "", list{{"", "\xff"}}, false},
		{"the text behind the empty one", "", "", list{{"\x00", "\xff"}}, true},
		{"the empty text is beside", "\x00", "f", list{{"", ""}}, true},
		{"a text that begins the least one", "ab", "abc", list{{"a", "a"}, {"abcd", "abd"}}, true},
		{"a text between those", "ab", "abc", list{{"aba", "aba"}}, false},
		{"one text, held", "f", "f", list{{"a", "z"}}, false},
		{"one text between two", "f", "f", list{{"a", "e\xff"}, {"f\x00", "z"}}, true},
		{"bytes from 80 on", "a", "\x7f", list{{"\x80", "\xff"}}, true},
		{"bytes from 80 on, held", "a", "\x80", list{{"\x80", "\xff"}}, false},
	} {
		for level := range 3 {
			what := fmt.Sprint(x.what, ", of level ", level)
			wantBottom(t, what, level, full(level, x.small, x.great), x.further, x.bottom)
			// Within the span this widens nothing.
			upper := append(full(level, x.small, x.great), file(50, level+1, 9, x.small, x.small))
			wantBottom(t, what+", with Below", level, upper, x.further, x.bottom)
		}
	}
}

func TestBottomByBelow(t *testing.T) {
	type list = [][2]string
	for _, x := range []struct {
		what    string
		next    list
		further list
		bottom  bool
	}{
		{"beside Inputs, within Below", list{{"c", "f"}}, list{{"d", "e"}}, false},
		{"beside Inputs, within Below, above", list{{"m", "r"}}, list{{"n", "o"}}, false},
		{"touching Below", list{{"c", "f"}}, list{{"a", "c"}}, false},
		{"touching Below, above", list{{"m", "r"}}, list{{"r", "s"}}, false},
		{"just beside Below", list{{"c", "f"}}, list{{"a", "b\xff"}}, true},
		{"just beside Below, above", list{{"m", "r"}}, list{{"r\x00", "s"}}, true},
		{"beside both ends", list{{"c", "f"}, {"g", "h"}, {"m", "r"}}, list{{"a", "b\xff"}, {"r\x00", "s"}}, true},
		{"within the first of Below", list{{"c", "f"}, {"g", "h"}, {"m", "r"}}, list{{"c", "c"}}, false},
		{"within the last of Below", list{{"c", "f"}, {"g", "h"}, {"m", "r"}}, list{{"q", "q"}}, false},
		{"Below holds Inputs", list{{"a", "z"}}, list{{"a", "a"}}, false},
		{"Below holds Inputs, above", list{{"a", "z"}}, list{{"z", "zz"}}, false},
		{"Below holds Inputs, beside", list{{"a", "z"}}, list{{"z\x00", "zz"}, {"", ""}}, true},
		{"Below within Inputs", list{{"g", "h"}}, list{{"i", "j"}}, false},
		{"the empty text of Below", list{{"", "f"}}, list{{"", ""}}, false},
		{"what is not of Below widens nothing", list{{"a", "e"}, {"n", "z"}}, list{{"a", "e"}, {"n", "z"}}, true},
		{"what is not of Below widens nothing, beside one that is", list{{"a", "b"}, {"c", "f"}, {"n", "z"}}, list{{"a", "b\xff"}, {"n", "z"}}, true},
		{"the same beyond what is", list{{"a", "b"}, {"e", "f"}, {"m", "n"}, {"p", "q"}}, list{{"c", "d\xff"}, {"n\x00", "z"}}, true},
	} {
		for level := range 3 {
			upper := append(full(level, "f", "m"), spans(50, level+1, x.next...)...)
			wantBottom(t, fmt.Sprint(x.what, ", of level ", level), level, upper, x.further, x.bottom)
		}
	}
}

func TestBottomBetweenTablesOfLevel0(t *testing.T) {
	type list = [][2]string
	inputs := spans(1, 0, [2]string{"r", "s"}, [2]string{"b", "c"}, [2]string{"b", "c"}, [2]string{"r", "r"})
	wantBottom(t, "between two Inputs", 0, inputs, list{{"k", "l"}}, false)
	wantBottom(t, "beside all", 0, inputs, list{{"a", "a\xff"}, {"s\x00", "z"}}, true)
	upper := append(inputs, file(50, 1, 9, "e", "f"))
	wantBottom(t, "between Inputs and Below", 0, upper, list{{"g", "q"}}, false)
	wantBottom(t, "between Below and Inputs", 0, upper, list{{"d", "d"}}, false)
	upper = append(inputs, file(50, 1, 9, "e", "f"), file(51, 1, 9, "i", "j"))
	wantBottom(t, "between two of Below", 0, upper, list{{"g", "h"}}, false)
	wantBottom(t, "beside all", 0, upper, list{{"a", "a\xff"}, {"s\x00", "z"}}, true)
}

func TestBottomOfTheLevelAboveTheLast(t *testing.T) {
	// There is none below the next one.
	for _, x := range [][2]string{{"f", "m"}, {"a", "z"}, {"a", "b"}, {"m", "m"}, {"", "\xff"}} {
		m := append(full(3, "f", "m"), file(50, 4, 1<<24, x[0], x[1]))
		if j, ok := m.wantAsModel(t, "the last level"); !ok || j.Level != 3 || !j.Bottom {
			t.Fatalf("P22.1: %s, %t", shown(j), ok)
		}
	}
}

func TestUpperTablesDoNotCountForBottom(t *testing.T) {
	for level := range 4 {
		m := full(level, "f", "m")
		for n := range level {
			m = append(m, file(int64(60+n), n, 1, "a", "z"))
		}
		if level > 0 {
			m = append(m, file(70, level, 1, "a", "b"), file(71, level, 1, "n", "z"))
		}
		m = append(m, file(72, level+1, 1, "e", "g"))
		m.wantNums(t, fmt.Sprint("tables at all levels but the further ones, of ", level), level, fullNums(level), []int64{72}, true)
	}
}

func TestBottomByAnyOfTheFurtherLevels(t *testing.T) {
	for level := range 3 {
		// Each bit is a level: a table there is within the span, or beside it.
		for bits := range 8 {
			m := append(full(level, "f", "m"), file(50, level+1, 1, "e", "g"))
			bottom := true
			for n := level + 2; n < 5; n++ {
				if bits>>(n-2)&1 != 0 {
					m = append(m, file(int64(80+n), n, 1, "e", "e"))
					bottom = false
				} else {
					m = append(m, file(int64(80+n), n, 1, "a", "d"), file(int64(90+n), n, 1, "n", "z"))
				}
			}
			m.wantNums(t, fmt.Sprintf("further levels %b, of level %d", bits, level), level, fullNums(level), []int64{50}, bottom)
		}
	}
}

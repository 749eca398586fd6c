package pick

import (
	"fmt"
	"slices"
	"testing"
)

// spans are tables of a level, from the number first on, with a span each.
func spans(first int64, level int, l ...[2]string) model {
	var m model
	for i, x := range l {
		m = append(m, file(first+int64(i), level, 3, x[0], x[1]))
	}
	return m
}

func TestBelow(t *testing.T) {
	type list = [][2]string
	for _, x := range []struct {
		what         string
		small, great string
		next         list
		below        []int64
	}{
		{"no tables", "f", "m", nil, nil},
		{"none", "f", "m", list{{"a", "e"}, {"n", "z"}}, nil},
		{"one", "f", "m", list{{"a", "e"}, {"g", "h"}, {"n", "z"}}, []int64{51}},
		{"some", "f", "m", list{{"a", "b"}, {"c", "e"}, {"f", "g"}, {"h", "i"}, {"l", "o"}, {"p", "q"}, {"r", "s"}}, []int64{52, 53, 54}},
		{"some, by Small", "f", "m", list{{"p", "q"}, {"l", "o"}, {"h", "i"}, {"f", "g"}, {"c", "e"}}, []int64{53, 52, 51}},
		{"all", "f", "m", list{{"a", "f"}, {"g", "h"}, {"i", "i"}, {"j", "z"}}, []int64{50, 51, 52, 53}},
		{"all, within", "f", "m", list{{"k", "l"}, {"g", "h"}}, []int64{51, 50}},
		{"a Great is the least Small", "f", "m", list{{"a", "f"}}, []int64{50}},
		{"a Small is the greatest Great", "f", "m", list{{"m", "z"}}, []int64{50}},
		{"both ends", "f", "m", list{{"m", "m"}, {"f", "f"}}, []int64{51, 50}},
		{"just beside at the least Small", "f", "m", list{{"a", "e\xff\xff\xff"}}, nil},
		{"just beside at the greatest Great", "f", "m", list{{"m\x00", "z"}}, nil},
		{"one text beside, at both ends", "f", "m", list{{"m\x00", "m\x00"}, {"e\xff", "e\xff"}}, nil},
		{"touching, and beside", "f", "m", list{{"m\x00", "m\x00"}, {"m", "m"}, {"e", "e"}, {"f", "f"}}, []int64{53, 51}},
		{"the whole span held", "f", "m", list{{"a", "z"}}, []int64{50}},
		{"all texts", "f", "m", list{{"", "\xff\xff"}}, []int64{50}},
		{"the same span", "f", "m", list{{"f", "m"}}, []int64{50}},
		{"across one end", "f", "m", list{{"a", "g"}}, []int64{50}},
		{"across the other", "f", "m", list{{"l", "z"}}, []int64{50}},
		{"a span of one text", "f", "f", list{{"a", "e"}, {"f", "f"}, {"g", "h"}}, []int64{51}},
		{"a span of one text, held", "f", "f", list{{"a", "z"}}, []int64{50}},
		{"a span of one text between two", "f", "f", list{{"a", "e\xff"}, {"f\x00", "z"}}, nil},
		{"the empty text", "", "", list{{"", ""}, {"\x00", "z"}}, []int64{50}},
		{"the empty text, from it on", "", "", list{{"", "z"}}, []int64{50}},
		{"the empty text, none", "", "", list{{"\x00", "\xff"}}, nil},
		{"from the empty text on", "", "f", list{{"", ""}, {"\x00", "a"}, {"f", "g"}, {"h", "i"}}, []int64{50, 51, 52}},
		{"the empty text is not within", "\x00", "f", list{{"", ""}, {"\x00", "a"}}, []int64{51}},
		{"texts that begin others", "ab", "abc", list{{"", "a"}, {"a\x00", "aa"}, {"ab", "ab"}, {"aba", "abb"}, {"abcd", "abd"}}, []int64{52, 53}},
		{"the beginning of both", "ab", "abc", list{{"a", "a"}, {"ab", "ab"}, {"abc", "abc"}, {"abc\x00", "abcd"}}, []int64{51, 52}},
		{"a longer Small", "abc", "abd", list{{"ab", "ab"}, {"abcd", "abcd"}, {"abd\x00", "abe"}}, []int64{51}},
		{"bytes from 80 on", "\x7f", "\x80", list{{"a", "~"}, {"\x80", "\xc3"}, {"\xff", "\xff"}}, []int64{51}},
		{"equivalent, not the same", "e\u0301", "e\u0301", list{{"\u00e9", "\u00e9"}, {"e\u0300", "e\u0302"}}, []int64{51}},
		{"characters, by bytes", "\uff00", "\uffff", list{{"\ufeff", "\ufeff"}, {"\uff01", "\uff02"}, {"\U00010000", "\U00010001"}}, []int64{51}},
	} {
		for level := range 4 {
			m := full(level, x.small, x.great)
			m = append(m, spans(50, level+1, x.next...)...)
			m.wantNums(t, fmt.Sprint(x.what, ", of level ", level), level, fullNums(level), x.below, true)
		}
	}
}

func TestBelowTablesOfLevel0ThatAreApart(t *testing.T) {
	type list = [][2]string
	for _, x := range []struct {
		what   string
		inputs list
		next   list
		below  []int64
	}{
		{"between two", list{{"b", "c"}, {"r", "s"}, {"k", "l"}, {"c", "d"}}, list{{"e", "j"}}, []int64{50}},
		{"one text between two", list{{"b", "c"}, {"r", "s"}, {"k", "l"}, {"c", "d"}}, list{{"d\x00", "d\x00"}}, []int64{50}},
		{"in each gap, and beside", list{{"b", "c"}, {"r", "s"}, {"k", "l"}, {"f", "g"}}, list{{"a", "a"}, {"d", "e"}, {"h", "h"}, {"m", "n"}, {"t", "u"}}, []int64{51, 52, 53}},
		{"within one", list{{"b", "g"}, {"r", "s"}, {"r", "s"}, {"r", "s"}}, list{{"c", "d"}}, []int64{50}},
		{"within the last one", list{{"b", "g"}, {"b", "g"}, {"b", "g"}, {"r", "u"}}, list{{"s", "t"}}, []int64{50}},
		{"within all", list{{"a", "z"}, {"b", "y"}, {"c", "x"}, {"d", "w"}}, list{{"k", "l"}, {"", ""}, {"z", "zz"}, {"zzz", "zzz"}}, []int64{50, 52}},
		{"the least Small is the first one's", list{{"b", "c"}, {"d", "e"}, {"d", "e"}, {"d", "e"}}, list{{"a", "a"}, {"b", "b"}}, []int64{51}},
		{"the least Small is the last one's", list{{"d", "e"}, {"d", "e"}, {"d", "e"}, {"b", "c"}}, list{{"a", "a"}, {"b", "b"}}, []int64{51}},
		{"the least Small is one's between", list{{"d", "e"}, {"b", "c"}, {"d", "e"}, {"d", "e"}}, list{{"a", "a"}, {"b", "b"}}, []int64{51}},
		{"the greatest Great is the first one's", list{{"d", "k"}, {"d", "e"}, {"d", "e"}, {"d", "e"}}, list{{"k", "l"}, {"m", "m"}}, []int64{50}},
		{"the greatest Great is the last one's", list{{"d", "e"}, {"d", "e"}, {"d", "e"}, {"d", "k"}}, list{{"k", "l"}, {"m", "m"}}, []int64{50}},
		{"the greatest Great is one's between", list{{"d", "e"}, {"d", "e"}, {"d", "k"}, {"d", "e"}}, list{{"k", "l"}, {"m", "m"}}, []int64{50}},
		{"both are one's", list{{"d", "e"}, {"a", "z"}, {"d", "e"}, {"d", "e"}}, list{{"y", "y"}, {"b", "c"}}, []int64{51, 50}},
		{"the empty text alone", list{{"", ""}, {"", ""}, {"", ""}, {"", ""}}, list{{"\x00", "a"}, {"", ""}}, []int64{51}},
		{"the empty text among others", list{{"d", "e"}, {"", ""}, {"d", "e"}, {"d", "e"}}, list{{"\x00", "a"}, {"f", "g"}, {"b", "c"}}, []int64{50, 52}},
		{"a longer one that another begins", list{{"ab", "ab"}, {"a", "a"}, {"ab", "abc"}, {"ab", "ab"}}, list{{"abcd", "abd"}, {"aa", "aa"}, {"abb", "abb"}}, []int64{51, 52}},
	} {
		permuted([]int{0, 1, 2, 3}, func(order []int) {
			var inputs list
			for _, i := range order {
				inputs = append(inputs, x.inputs[i])
			}
			m := append(spans(1, 0, inputs...), spans(50, 1, x.next...)...)
			m.wantNums(t, x.what, 0, []int64{4, 3, 2, 1}, x.below, true)
		})
	}
}

func TestBelowIsOfTheNextLevelAlone(t *testing.T) {
	for level := range 4 {
		m := full(level, "f", "m")
		var below []int64
		for n := range 5 {
			switch {
			case n == 0 && level > 0:
				m = append(m, file(60, 0, 1, "f", "m"))
			case n == level && level > 0:
				m = append(m, file(61, n, 1, "a", "b"), file(62, n, 1, "m\x00", "z"))
			case n == level+1:
				m = append(m, file(65, n, 1, "a", "f"), file(64, n, 1, "g", "z"))
				below = []int64{65, 64}
			case n != level:
				m = append(m, file(int64(70+n), n, 1, "a", "z"))
			}
		}
		m.wantNums(t, fmt.Sprint("tables at all levels, of level ", level), level, fullNums(level), below, level > 2)
	}
}

func TestOtherTablesOfTheLevelDoNotWidenTheSpan(t *testing.T) {
	for level := 1; level < 4; level++ {
		m := model{file(9, level, 40000, "a", "e"), file(2, level, 1, "f", "m"), file(8, level, 40000, "n", "z")}
		m = append(m, spans(50, level+1, [2]string{"b", "e"}, [2]string{"ee", "f"}, [2]string{"m", "mm"}, [2]string{"n", "o"})...)
		m.wantNums(t, fmt.Sprint("three of level ", level), level, []int64{2}, []int64{51, 52}, true)
		for n := level + 2; n < 5; n++ {
			m = append(m, file(int64(10*n+30), n, 1, "a", "e"), file(int64(10*n+31), n, 1, "mm\x00", "z"))
			m.wantNums(t, fmt.Sprint("and tables at ", n), level, []int64{2}, []int64{51, 52}, true)
		}
	}
}

func TestAllSpansAgainstAllSpans(t *testing.T) {
	texts := anyTexts()
	slices.Sort(texts)
	met := 0
	for i := range texts {
		for j := i; j < len(texts); j++ {
			for k := range texts {
				for l := k; l < len(texts); l++ {
					level := (i + j + k + l) % 4
					m := append(full(level, texts[i], texts[j]), file(50, level+1, 9, texts[k], texts[l]))
					want, _ := m.next()
					wantJob(t, "two spans", m.made(t), want, true)
					met += len(want.Below)
				}
			}
		}
	}
	// Of 12 texts there are 14 over 4 ways to choose two spans, one behind the
	// other, and either may be the first one; of 78 times 78 pairs the others meet.
	if met != 78*78-2*1001 {
		t.Errorf("P22.1: %d pairs of spans have a text in common", met)
	}
}

func TestManyTablesBelow(t *testing.T) {
	for level := range 4 {
		m := full(level, "p2-020", "p2-119")
		var below []int64
		for i, f := range parted(50, 2, 150, 1500) {
			f.Level = level + 1
			m = append(m, f)
			if i >= 20 && i < 120 {
				below = append(below, f.Num)
			}
		}
		m.wantNums(t, fmt.Sprint("many tables below level ", level), level, fullNums(level), below, true)
	}
}

package version

import (
	"fmt"
	"math"
	"slices"
	"strings"
	"testing"

	"incipit/api"
)

// room is an edit of nothing but a Next that leaves room for many tables.
func room() api.Edit {
	return api.Edit{Next: 10000}
}

// flat are n tables of level 0, from the number first on, which have all in
// common.
func flat(first int64, n int) []api.File {
	var l []api.File
	for i := range n {
		l = append(l, file(first+int64(i), 0, "a", "b"))
	}
	return l
}

// row are n tables from the number first on, in turn at all levels, which have
// nothing in common.
func row(first int64, n int) []api.File {
	var l []api.File
	for i := range n {
		small := fmt.Sprintf("k%04d", first+int64(i))
		l = append(l, file(first+int64(i), i%5, small, small+xs(i%4)))
	}
	return l
}

// nums are n numbers of tables, from first on.
func nums(first int64, n int) []int64 {
	var l []int64
	for i := range n {
		l = append(l, first+int64(i))
	}
	return l
}

func TestWhatCheckRefuses(t *testing.T) {
	f := file(60, 3, "a", "b")
	wrong := []api.Edit{
		{Next: -1}, {Log: -1}, {Last: -1}, {Next: mostNum + 1}, {Log: mostNum + 1}, {Last: mostNum + 1},
		dels(0), dels(-1), dels(mostNum + 1), dels(math.MinInt64), dels(9, 0), dels(0, 9),
		{Adds: make([]api.File, 1)}, {Adds: make([]api.File, 201)}, {Dels: make([]int64, 201)},
		{Next: 10000, Adds: flat(100, 201)}, {Dels: nums(1, 201)},
	}
	for _, num := range []int64{0, -1, -60, math.MinInt64, mostNum + 1, math.MaxInt64} {
		g := f
		g.Num = num
		wrong = append(wrong, adds(g), adds(f, g), adds(g, f))
	}
	for _, level := range []int{-1, 5, 6, math.MinInt, math.MaxInt, 1 << 32} {
		g := f
		g.Level = level
		wrong = append(wrong, adds(g))
	}
	for _, size := range []int{-1, 1<<24 + 1, math.MinInt, math.MaxInt} {
		g := f
		g.Size = size
		wrong = append(wrong, adds(g))
	}
	for _, x := range [][2]string{{"b", "a"}, {"a", ""}, {"a\x00", "a"}, {"\x80", "a"}, {"a", xs(13001)}, {xs(13001), "y"}} {
		wrong = append(wrong, adds(file(60, 3, x[0], x[1])), adds(file(60, 0, x[0], x[1])))
	}
	p := made(t, standing())
	for i, e := range wrong {
		p.refused(t, fmt.Sprint("what Check refuses, ", i), e)
		newPair().refused(t, fmt.Sprint("what Check refuses, of a New one, ", i), e)
	}
	p.ok(t, "a table that may be", adds(f))
	p.ok(t, "a table of the greatest texts", adds(file(61, 3, xs(12999), xs(13000)), file(62, 0, xs(13000), xs(13000))))
	p.ok(t, "a table of the least and the greatest Size", adds(api.File{Num: 63}, api.File{Num: 64, Size: 1 << 24}))
}

func TestDels(t *testing.T) {
	made(t, standing()).ok(t, "of level 0", dels(9))
	made(t, standing()).ok(t, "of level 1", dels(41))
	made(t, standing()).ok(t, "of level 4", dels(99))
	made(t, standing()).ok(t, "some, in any order", dels(99, 12, 40, 30))
	made(t, standing()).ok(t, "all", dels(9, 12, 20, 30, 40, 41, 42, 99))
	for _, l := range [][]int64{
		{1}, {8}, {10}, {50}, {100}, {mostNum}, {9, 10}, {10, 9}, {9, 10, 12},
		{9, 9}, {41, 41}, {9, 12, 9}, {12, 9, 9}, {9, 9, 9}, {9, 12, 30, 40, 41, 42, 20, 99, 99}, {9, 12, 30, 40, 41, 42, 20, 99, 98},
	} {
		made(t, standing()).refused(t, "a table that is not there, or twice", dels(l...))
	}
	newPair().refused(t, "of a New one", dels(1))
	p := made(t, standing(), dels(12, 41))
	p.refused(t, "a table that went", dels(12))
	p.refused(t, "a table that went, of two", dels(9, 41))
	p.refused(t, "a table that comes by the same edit", api.Edit{Dels: []int64{60}, Adds: []api.File{file(60, 0, "a", "b")}})
	p.ok(t, "it comes", adds(file(60, 0, "a", "b")))
	p.ok(t, "it goes", dels(60))
}

func TestATableThatGoesAndComesByOneEdit(t *testing.T) {
	for _, f := range standing().Adds {
		for level := range 5 {
			g := file(f.Num, level, "\xff\x01", "\xff\x02")
			p := made(t, standing())
			p.refused(t, "it comes while it is there", adds(g))
			p.ok(t, fmt.Sprint("it goes from ", f.Level, " and comes at ", level), api.Edit{Dels: []int64{f.Num}, Adds: []api.File{g}})
			p.ok(t, "and again", api.Edit{Dels: []int64{f.Num}, Adds: []api.File{f}})
			p.refused(t, "twice", api.Edit{Dels: []int64{f.Num, f.Num}, Adds: []api.File{g}})
			p.refused(t, "it comes twice", api.Edit{Dels: []int64{f.Num}, Adds: []api.File{f, g}})
			p.refused(t, "twice, and it comes twice", api.Edit{Dels: []int64{f.Num, f.Num}, Adds: []api.File{f, g}})
			p.refused(t, "another one goes", api.Edit{Dels: []int64{(f.Num + 3) % 43}, Adds: []api.File{g}})
		}
	}
}

func TestANumThatIsThere(t *testing.T) {
	for _, f := range standing().Adds {
		for level := range 5 {
			g := file(f.Num, level, "\xff\x01", "\xff\x02")
			made(t, standing()).refused(t, fmt.Sprint("the Num of ", f.Level, " at ", level), adds(g))
			made(t, standing()).refused(t, "among others", adds(file(60, 3, "a", "b"), g, file(61, 3, "c", "d")))
		}
		made(t, standing()).refused(t, "the very table", adds(f))
	}
	for level := range 5 {
		for other := range 5 {
			f, g := file(60, level, "\xff\x01", "\xff\x02"), file(60, other, "\xff\x03", "\xff\x04")
			made(t, standing()).refused(t, "a Num twice", adds(f, g))
			made(t, standing()).refused(t, "a Num twice, not side by side", adds(f, file(61, 3, "a", "b"), g))
		}
		made(t, standing()).refused(t, "the same table twice", adds(file(60, level, "\xff\x01", "\xff\x02"), file(60, level, "\xff\x01", "\xff\x02")))
	}
}

// spans are all spans between anyTexts' texts.
func spans() [][2]string {
	l := anyTexts()
	slices.SortFunc(l, strings.Compare)
	var all [][2]string
	for i, small := range l {
		for _, great := range l[i:] {
			all = append(all, [2]string{small, great})
		}
	}
	return all
}

// answer is what a version answers two tables of which one stands, if before
// is so, and the other comes, or both come by one edit; it fails unless the
// model answers so, too.
func answer(t *testing.T, f, g api.File, before bool) api.Errno {
	t.Helper()
	p := newPair()
	e := api.Edit{Next: 9, Adds: []api.File{f, g}}
	if before {
		first := api.Edit{Next: 9, Adds: []api.File{f}}
		if p.m.apply(first) != api.OK || p.v.Apply(first) != api.OK {
			t.Fatalf("P20.1: Apply of %s is not OK", shown(first))
		}
		e.Adds = e.Adds[1:]
	}
	want := p.m.apply(e)
	if err := p.v.Apply(e); err != want {
		t.Fatalf("P20.1: Apply of %s, with %s: %v, not %v", shown(e), shown(p.v.All()), err, want)
	}
	wantTables(t, "two tables", p.v, p.m)
	return want
}

func TestTwoSpansOfEachKind(t *testing.T) {
	taken := 0
	for _, a := range spans() {
		for _, b := range spans() {
			for _, levels := range [][2]int{{0, 0}, {1, 1}, {4, 4}, {1, 2}} {
				f, g := file(1, levels[0], a[0], a[1]), file(2, levels[1], b[0], b[1])
				err := answer(t, f, g, false)
				if answer(t, g, f, false) != err || answer(t, f, g, true) != err {
					t.Fatalf("P20.1: %s and %s are not always answered alike", shown(f), shown(g))
				}
				if (levels[0] == 0 || levels[0] != levels[1]) && err != api.OK {
					t.Fatalf("P20.1: %s and %s: %v", shown(f), shown(g), err)
				}
				if levels[0] == 4 && err == api.OK {
					taken++
				}
			}
		}
	}
	// Of 15 texts there are 17 over 4 ways to choose two spans, one behind the
	// other, and either may be the first one.
	if taken != 2*2380 {
		t.Errorf("P20.1: %d pairs of spans have nothing in common", taken)
	}
}

func TestTextsInCommon(t *testing.T) {
	for _, x := range []struct {
		what string
		a, b [2]string
		ok   bool
	}{
		{"the Great of one is the Small of the other", [2]string{"a", "c"}, [2]string{"c", "d"}, false},
		{"the next text", [2]string{"a", "c"}, [2]string{"c\x00", "d"}, true},
		{"the next text, alone", [2]string{"c", "c"}, [2]string{"c\x00", "c\x00"}, true},
		{"the last text ahead of it", [2]string{"a", "b\xff\xff\xff"}, [2]string{"c", "d"}, true},
		{"one within the other", [2]string{"a", "z"}, [2]string{"k", "l"}, false},
		{"one text within the other", [2]string{"a", "z"}, [2]string{"k", "k"}, false},
		{"one at the other's beginning", [2]string{"a", "z"}, [2]string{"a", "a"}, false},
		{"one at the other's end", [2]string{"a", "z"}, [2]string{"z", "z"}, false},
		{"a common end", [2]string{"a", "z"}, [2]string{"k", "z"}, false},
		{"a common beginning", [2]string{"a", "k"}, [2]string{"a", "z"}, false},
		{"both the same", [2]string{"a", "c"}, [2]string{"a", "c"}, false},
		{"both of one text", [2]string{"k", "k"}, [2]string{"k", "k"}, false},
		{"one across the other", [2]string{"a", "k"}, [2]string{"f", "z"}, false},
		{"apart", [2]string{"a", "b"}, [2]string{"y", "z"}, true},
		{"both empty", [2]string{"", ""}, [2]string{"", ""}, false},
		{"the empty text, and all", [2]string{"", ""}, [2]string{"", "\xff"}, false},
		{"the empty text, and the next", [2]string{"", ""}, [2]string{"\x00", "\xff"}, true},
		{"a front of the other", [2]string{"ab", "ab"}, [2]string{"abc", "abd"}, true},
		{"a front of the other within", [2]string{"ab", "abd"}, [2]string{"abc", "abe"}, false},
		{"a front of the other, behind", [2]string{"a", "abc"}, [2]string{"abc\x00", "b"}, true},
		{"bytes from 80 on", [2]string{"a", "\x7f"}, [2]string{"\x80", "\xff"}, true},
		{"bytes from 80 on in common", [2]string{"a", "\x80"}, [2]string{"\x80", "\xff"}, false},
		{"bytes from 80 on within", [2]string{"a", "\xff"}, [2]string{"\x80", "\xc3"}, false},
		{"characters, by bytes", [2]string{"\uff00", "\uffff"}, [2]string{"\U00010000", "\U00010001"}, true},
		{"what is equivalent is not the same", [2]string{"e\u0301", "e\u0301"}, [2]string{"\u00e9", "\u00e9"}, true},
	} {
		for level := range 5 {
			f, g := file(1, level, x.a[0], x.a[1]), file(2, level, x.b[0], x.b[1])
			next := api.Edit{Next: 3}
			made(t, next).answered(t, x.what, adds(f, g), x.ok || level == 0)
			made(t, next).answered(t, x.what+", the other way", adds(g, f), x.ok || level == 0)
			made(t, next, adds(f)).answered(t, x.what+", one before", adds(g), x.ok || level == 0)
			made(t, next, adds(g)).answered(t, x.what+", the other before", adds(f), x.ok || level == 0)
			f.Level, g.Level = level, (level+1)%5
			made(t, next).ok(t, x.what+", at two levels", adds(f, g))
			made(t, next, adds(f)).ok(t, x.what+", at two levels, one before", adds(g))
		}
	}
}

func TestATableAmongMany(t *testing.T) {
	// Between tables, across one, across all, at both ends.
	texts := []string{"", "c", "d", "d\x00", "e", "f", "g", "k", "m", "p", "p\x00", "q", "t", "u", "z"}
	for level := range 5 {
		four := []api.File{file(1, level, "p", "q"), file(2, level, "d", "f"), file(3, level, "t", "t"), file(4, level, "k", "m")}
		for i, small := range texts {
			for _, great := range texts[i:] {
				what := fmt.Sprintf("from %q to %q at %d", small, great, level)
				p := made(t, room(), adds(four...))
				q := made(t, room())
				f := file(5, level, small, great)
				if p.apply(t, what, adds(f)) != q.apply(t, what+", all by one edit", adds(append([]api.File{f}, four...)...)) {
					t.Fatalf("P20.1: %s: many edits are not answered as one is", what)
				}
			}
		}
	}
}

func TestATableWhereOneWent(t *testing.T) {
	for level := range 5 {
		p := made(t, room(), adds(file(1, level, "a", "c"), file(2, level, "e", "g"), file(3, level, "i", "k")))
		f := file(4, level, "e", "g")
		p.ok(t, "in its place", api.Edit{Dels: []int64{2}, Adds: []api.File{f}})
		p.answered(t, "it stays", adds(file(5, level, "f", "f")), level == 0)
		p = made(t, room(), adds(file(1, level, "a", "c"), file(2, level, "e", "g"), file(3, level, "i", "k")))
		p.answered(t, "another one went", api.Edit{Dels: []int64{3}, Adds: []api.File{f}}, level == 0)
		p = made(t, room(), adds(file(1, level, "a", "c"), file(2, level, "e", "g"), file(3, level, "i", "k")))
		p.answered(t, "too much of it", api.Edit{Dels: []int64{2}, Adds: []api.File{file(4, level, "c", "h")}}, level == 0)
		p = made(t, room(), adds(file(1, level, "a", "c"), file(2, level, "e", "g"), file(3, level, "i", "k")))
		p.ok(t, "two for one", api.Edit{Dels: []int64{2}, Adds: []api.File{file(9, level, "g", "h"), file(8, level, "d", "e")}})
		p.ok(t, "one for all", api.Edit{Dels: []int64{9, 3, 1, 8}, Adds: []api.File{file(7, level, "", "\xff")}})
		p.ok(t, "at another level", api.Edit{Dels: []int64{7}, Adds: []api.File{file(7, (level+1)%5, "", "\xff")}})
	}
}

func TestLevel0MayHaveAllInCommon(t *testing.T) {
	p := made(t, room())
	for i := range int64(9) {
		p.ok(t, "the same again", adds(file(i+1, 0, "a", "b"), file(i+100, 0, "a", "b")))
	}
	p.ok(t, "all texts", adds(file(50, 0, "", "\xff"), file(51, 0, "", ""), file(52, 0, "", "")))
}

func TestHowManyTablesThereMayBe(t *testing.T) {
	for name, make := range map[string]func(int64, int) []api.File{"level 0": flat, "all levels": row} {
		for n := 198; n <= 200; n++ {
			p := made(t, room(), api.Edit{Adds: make(1, n)})
			for k := n + 1; k <= 203; k++ {
				p.answered(t, fmt.Sprint(name, ": ", k, " tables, ", n, " stand"), api.Edit{Adds: make(1001, k-n)}, k <= 200)
				if k <= 200 {
					p.ok(t, "they go", api.Edit{Dels: nums(1001, k-n)})
				}
			}
			p.refused(t, "twice as many", api.Edit{Adds: make(1001, n)})
			p.ok(t, "as many others", api.Edit{Dels: nums(1, n), Adds: make(1001, n)})
			p.answered(t, "one more, less one", api.Edit{Dels: nums(1001, 1), Adds: make(1, 201-n)}, true)
			p.refused(t, "201, less one", api.Edit{Dels: nums(1002, 1), Adds: make(301, 2)})
			p.ok(t, "all go", api.Edit{Dels: append(nums(1002, n-1), nums(1, 201-n)...)})
		}
	}
}

func TestManyTablesByManyEdits(t *testing.T) {
	for _, step := range []int{1, 7, 50, 67} {
		p := made(t, room())
		n := 0
		for n+step <= 200 {
			e := api.Edit{Adds: row(int64(n+1), step)}
			if p.m.apply(e) != api.OK || p.v.Apply(e) != api.OK {
				t.Fatalf("P20.1: %d tables, %d more: not OK", n, step)
			}
			n += step
		}
		wantLike(t, fmt.Sprint(n, " tables"), p.v, p.m)
		p.refused(t, "too many", api.Edit{Adds: row(int64(n+1), 201-n)})
		p.ok(t, "200 tables", api.Edit{Adds: row(int64(n+1), 200-n)})
		p.refused(t, "201 tables", adds(file(900, 0, "a", "b")))
		p.ok(t, "201 tables, less one", api.Edit{Dels: []int64{77}, Adds: []api.File{file(900, 0, "a", "b")}})
		p.refused(t, "201 tables", adds(file(901, 4, "x", "y")))
	}
}

func TestTheLastAddMayNotBe(t *testing.T) {
	for _, n := range []int{1, 2, 9, 100, 150} {
		for _, last := range []api.File{
			file(10000, 0, "a", "b"), file(9999, 3, "x3", "x3"), file(500, 0, "a", "b"), file(500, 4, "x9", "x9"), file(int64(n), 4, "x9", "x9"),
			file(9999, 1, "", "\xff"), file(9999, 1, "k0501", "k0501"), {}, {Num: 9999, Level: 5}, {Num: 9999, Level: -1},
			{Num: 9999, Size: -1}, {Num: 9999, Small: "b", Great: "a"}, {Num: -1, Small: "a", Great: "a"},
		} {
			p := made(t, room(), api.Edit{Log: 5, Last: 5, Adds: append(row(500, 40), file(600, 3, "x3", "x5"))})
			e := api.Edit{Next: 10000, Log: 9, Last: 9, Dels: []int64{500, 537}, Adds: append(row(1, n), last)}
			if last.Num == 500 {
				e.Dels = e.Dels[1:]
			}
			p.refused(t, "the last Add", e)
			e.Adds = e.Adds[:n]
			p.ok(t, "the others", e)
		}
	}
}

func TestTheLastDelMayNotBe(t *testing.T) {
	for _, n := range []int{1, 2, 9, 100, 199} {
		for _, last := range []int64{0, -1, 1, 499, 700, 9, mostNum, mostNum + 1, 500} {
			p := made(t, room(), api.Edit{Log: 5, Last: 5, Adds: row(500, 200)})
			e := api.Edit{Next: 10001, Log: 9, Last: 9, Dels: append(nums(500, n), last), Adds: []api.File{file(9, 0, "a", "b"), file(1, 1, "a", "b")}}
			if n == 1 {
				e.Adds = e.Adds[:1]
			}
			p.refused(t, "the last Del", e)
			e.Dels = e.Dels[:n]
			p.ok(t, "the others", e)
		}
	}
}

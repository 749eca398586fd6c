package version

import (
	"fmt"
	"math"
	"slices"
	"testing"

	"incipit/api"
)

// permuted calls do with each order of l.
func permuted(l []api.File, do func(l []api.File)) {
	var put func(front, rest []api.File)
	put = func(front, rest []api.File) {
		if len(rest) == 0 {
			do(front)
		}
		for i, f := range rest {
			put(append(slices.Clone(front), f), slices.Delete(slices.Clone(rest), i, i+1))
		}
	}
	put(nil, l)
}

func TestOrderOfEachLevel(t *testing.T) {
	// By Num and by Small they stand in other orders.
	spans := [][2]string{{"k", "l"}, {"", "a"}, {"\xff", "\xff"}, {"b", "b\x00"}, {"\x80", "\xc3"}}
	for level := range 5 {
		var l []api.File
		for i, x := range spans {
			l = append(l, file(int64(i*i%5*10+i+1), level, x[0], x[1]))
		}
		permuted(l, func(l []api.File) {
			one := made(t, api.Edit{Next: 99, Adds: l})
			many := made(t, api.Edit{Next: 99})
			for _, f := range l {
				many.ok(t, "one by one", adds(f))
			}
			wantFiles(t, "one by one", many.v.All(), one.v.All())
		})
	}
}

func TestOrderIsWrittenOut(t *testing.T) {
	v := New()
	v.Apply(api.Edit{Next: 300, Adds: []api.File{
		file(9, 4, "b", "c"), file(100, 0, "z", "z"), file(10, 4, "a", "a"), file(2, 2, "\x80", "\x80"), file(20, 0, "a", "b"),
		file(1, 2, "z", "z"), file(255, 0, "k", "k"), file(256, 1, "", ""), file(3, 2, "Z", "a"),
	}})
	v.Apply(api.Edit{Dels: []int64{20}, Adds: []api.File{file(5, 4, "aa", "ab"), file(21, 0, "", ""), file(299, 3, "y", "z"), file(257, 2, "", "")}})
	want := [][]api.File{
		{file(255, 0, "k", "k"), file(100, 0, "z", "z"), file(21, 0, "", "")},
		{file(256, 1, "", "")},
		{file(257, 2, "", ""), file(3, 2, "Z", "a"), file(1, 2, "z", "z"), file(2, 2, "\x80", "\x80")},
		{file(299, 3, "y", "z")},
		{file(10, 4, "a", "a"), file(5, 4, "aa", "ab"), file(9, 4, "b", "c")},
	}
	for n, l := range want {
		wantFiles(t, fmt.Sprint("Level ", n), v.Level(n), l)
	}
	wantFiles(t, "All", v.All(), slices.Concat(want...))
	for _, n := range []int{math.MinInt, -1, 5, math.MaxInt} {
		wantFiles(t, fmt.Sprint("Level ", n), v.Level(n), nil)
		wantFiles(t, fmt.Sprint("Over ", n), v.Over(n, "", "\xff"), nil)
	}
}

func TestTheSameTablesAtEachLevel(t *testing.T) {
	// All has no other order than that of the levels, whatever is in them.
	p := newPair()
	for level := 4; level >= 0; level-- {
		p.ok(t, "one more level", api.Edit{Next: 100, Adds: []api.File{file(int64(50-level), level, "a", "b"), file(int64(10+level), level, "c", "d")}})
	}
	p = newPair()
	for _, level := range []int{2, 0, 4, 1, 3} {
		p.ok(t, "one more level", api.Edit{Next: 100, Adds: []api.File{file(int64(10+level), level, "c", "d"), file(int64(50-level), level, "a", "b")}})
	}
}

func TestEveryFieldIsTold(t *testing.T) {
	want := []api.File{
		{Num: 1 << 40, Level: 0, Size: 1 << 24, Small: "", Great: xs(13000)},
		{Num: 3, Level: 3, Size: 0, Small: "\xff", Great: "\xff\x00"},
	}
	p := newPair()
	p.ok(t, "two tables", api.Edit{Next: 1 << 41, Adds: want})
	wantFiles(t, "All", p.v.All(), want)
	wantFiles(t, "Edit's", p.v.Edit().Adds, want)
	wantFiles(t, "Over", p.v.Over(0, "x", "x"), want[:1])
}

func TestEditOfEachVersion(t *testing.T) {
	// What Edit tells is held behind each edit that is taken.
	p := made(t, api.Edit{Next: 1}, api.Edit{Next: 5, Log: 4}, api.Edit{Last: 9})
	p.ok(t, "one table", adds(file(4, 3, "a", "b")))
	p.ok(t, "none again", dels(4))
	made(t, api.Edit{Next: 201, Log: 200, Last: mostNum, Adds: row(1, 200)})
	made(t, api.Edit{Next: 1000, Adds: flat(1, 200)})
	for level := range 5 {
		l := row(1, 200)
		for i := range l {
			l[i].Level = level
		}
		made(t, api.Edit{Next: 201, Adds: l}, dels(1, 200), api.Edit{Dels: nums(3, 90), Log: 9})
	}
	// Of another one than a New one it may be none.
	q := made(t, standing())
	q.refused(t, "an own Edit", q.v.Edit())
}

func TestOver(t *testing.T) {
	for level := range 5 {
		a, b, c := file(3, level, "d", "f"), file(2, level, "k", "k"), file(1, level, "p", "t")
		p := made(t, api.Edit{Next: 9, Adds: []api.File{b, c, a, file(8, (level+1)%5, "", "\xff")}})
		for _, x := range []struct {
			small, great string
			want         []api.File
		}{
			{"", "", nil}, {"", "c\xff", nil}, {"", "d", []api.File{a}}, {"d", "d", []api.File{a}}, {"c", "d", []api.File{a}},
			{"d\x00", "e", []api.File{a}}, {"e", "e", []api.File{a}}, {"f", "f", []api.File{a}}, {"f", "g", []api.File{a}},
			{"c", "g", []api.File{a}}, {"f\x00", "g", nil}, {"f\x00", "j\xff", nil}, {"g", "g", nil},
			{"f\x00", "k", []api.File{b}}, {"k", "k", []api.File{b}}, {"k", "o", []api.File{b}}, {"j", "l", []api.File{b}}, {"k\x00", "o\xff", nil},
			{"f", "k", []api.File{a, b}}, {"e", "z", []api.File{a, b, c}}, {"", "\xff", []api.File{a, b, c}}, {"d", "t", []api.File{a, b, c}},
			{"f", "p", []api.File{a, b, c}}, {"k", "p", []api.File{b, c}}, {"k\x00", "p", []api.File{c}}, {"t", "t", []api.File{c}},
			{"t", "\xff", []api.File{c}}, {"t\x00", "\xff", nil}, {"\x80", "\xff", nil},
			{"t", "d", nil}, {"f", "d", nil}, {"e\x00", "e", nil}, {"\xff", "", nil}, {"k\x00", "k", nil}, {"k", "j", nil}, {"q", "p", nil},
		} {
			wantFiles(t, fmt.Sprintf("Over %d, %q, %q", level, x.small, x.great), p.v.Over(level, x.small, x.great), x.want)
		}
		wantOver(t, "three tables", p.v, p.m, append(anyTexts(), "d", "f", "f\x00", "k", "k\x00", "p", "t", "t\x00"))
	}
}

func TestOverOfLevel0(t *testing.T) {
	p := made(t, room(), adds(
		file(5, 0, "a", "m"), file(9, 0, "k", "z"), file(2, 0, "", "\xff"), file(7, 0, "l", "l"), file(1, 0, "", ""), file(8, 0, "l", "l"), file(4, 0, "m\x00", "n")))
	for _, x := range []struct {
		small, great string
		want         []int64
	}{
		{"", "", []int64{2, 1}}, {"", "\xff", []int64{9, 8, 7, 5, 4, 2, 1}}, {"l", "l", []int64{9, 8, 7, 5, 2}}, {"m", "m", []int64{9, 5, 2}},
		{"m\x00", "m\x00", []int64{9, 4, 2}}, {"b", "c", []int64{5, 2}}, {"\x00", "\x00", []int64{2}}, {"z\x00", "\xff", []int64{2}}, {"\xff\x00", "\xff\xff", nil}, {"m", "l", nil},
	} {
		var l []int64
		for _, f := range p.v.Over(0, x.small, x.great) {
			l = append(l, f.Num)
		}
		if !slices.Equal(l, x.want) {
			t.Errorf("P20.2: Over 0, %q, %q: %v, not %v", x.small, x.great, l, x.want)
		}
	}
	wantOver(t, "level 0", p.v, p.m, append(anyTexts(), "k", "l", "m", "m\x00", "n"))
}

func TestOverOfEmptyTexts(t *testing.T) {
	for level := range 5 {
		p := made(t, room(), adds(file(1, level, "", ""), file(2, level, "\x00", "\x00")))
		wantOver(t, "empty texts", p.v, p.m, anyTexts())
		wantFiles(t, "the empty text", p.v.Over(level, "", ""), []api.File{file(1, level, "", "")})
		p = made(t, room(), adds(file(1, level, "", "a")))
		wantOver(t, "from the empty text on", p.v, p.m, anyTexts())
		p = made(t, room())
		wantOver(t, "no tables", p.v, p.m, anyTexts())
	}
}

func TestOverOfLongTexts(t *testing.T) {
	p := made(t, room(), adds(file(1, 1, xs(12000), xs(13000))))
	for _, x := range []struct {
		small, great string
		n            int
	}{
		{xs(12000), xs(12000), 1}, {xs(11999), xs(11999), 0}, {xs(13000), xs(1 << 20), 1}, {xs(13001), xs(1 << 20), 0}, {xs(1 << 20), xs(1<<20 + 1), 0}, {"", xs(1 << 20), 1},
	} {
		if l := p.v.Over(1, x.small, x.great); len(l) != x.n {
			t.Errorf("P20.2: Over of %d and %d bytes: %d tables, not %d", len(x.small), len(x.great), len(l), x.n)
		}
	}
}

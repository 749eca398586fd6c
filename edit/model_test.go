package edit

import (
	"encoding/binary"
	"fmt"
	"math"
	"slices"
	"strings"

	"incipit/api"
)

// mostNum is the greatest number of an edit.
const mostNum = 1 << 50

// short tells the beginning of what may be long.
func short(x any) string {
	return fmt.Sprintf("%.90q", fmt.Sprintf("%+v", x))
}

// xs is a text of n bytes.
func xs(n int) string {
	return strings.Repeat("x", n)
}

// isSame tells whether two edits are the same: a list of none may be nil.
func isSame(a, b api.Edit) bool {
	return a.Next == b.Next && a.Log == b.Log && a.Last == b.Last &&
		slices.Equal(a.Adds, b.Adds) && slices.Equal(a.Dels, b.Dels)
}

// copyOf is e with lists of its own.
func copyOf(e api.Edit) api.Edit {
	e.Adds, e.Dels = slices.Clone(e.Adds), slices.Clone(e.Dels)
	return e
}

// number makes the bytes of a number by the library's own numbers.
func number(n int64) string {
	return string(binary.AppendUvarint(nil, uint64(n)))
}

// numbers makes the bytes of numbers, one behind the other.
func numbers(l ...int64) string {
	s := ""
	for _, n := range l {
		s += number(n)
	}
	return s
}

// text makes the bytes of a text.
func text(s string) string {
	return number(int64(len(s))) + s
}

// laidFile makes the bytes of a file, whatever it is.
func laidFile(f api.File) string {
	return numbers(f.Num, int64(f.Level), int64(f.Size)) + text(f.Small) + text(f.Great)
}

// laid makes the bytes of an edit, whatever it is: also of one that may not be.
func laid(e api.Edit) string {
	var s strings.Builder
	s.WriteString(numbers(e.Next, e.Log, e.Last, int64(len(e.Adds))))
	for _, f := range e.Adds {
		s.WriteString(laidFile(f))
	}
	s.WriteString(number(int64(len(e.Dels))))
	for _, num := range e.Dels {
		s.WriteString(number(num))
	}
	return s.String()
}

// taking takes numbers and texts from the beginning of bytes.
type taking struct {
	rest  string
	wrong bool
}

func (t *taking) number() int64 {
	n, size := binary.Uvarint([]byte(t.rest))
	if size <= 0 {
		t.wrong = true
		return 0
	}
	t.rest = t.rest[size:]
	return int64(n)
}

func (t *taking) text() string {
	n := t.number()
	if n < 0 || n > int64(len(t.rest)) {
		t.wrong = true
		return ""
	}
	s := t.rest[:n]
	t.rest = t.rest[n:]
	return s
}

// decodeByWords is what Decode(b) tells by the chapter's words: the edit that is
// laid to just these bytes, if it is one that may be.
func decodeByWords(b string) (api.Edit, api.Errno) {
	t := &taking{rest: b}
	e := api.Edit{}
	e.Next, e.Log, e.Last = t.number(), t.number(), t.number()
	for n := t.number(); n > 0 && !t.wrong; n-- {
		f := api.File{}
		f.Num, f.Level, f.Size = t.number(), int(t.number()), int(t.number())
		f.Small, f.Great = t.text(), t.text()
		e.Adds = append(e.Adds, f)
	}
	for n := t.number(); n > 0 && !t.wrong; n-- {
		e.Dels = append(e.Dels, t.number())
	}
	// Numbers of more bytes than needed come out when it is laid anew.
	if t.wrong || !mayBe(e) || laid(e) != b {
		return api.Edit{}, api.ErrCorrupt
	}
	return e, api.OK
}

// mayBe tells whether the chapter's words let an edit be.
func mayBe(e api.Edit) bool {
	ok := min(e.Next, e.Log, e.Last) >= 0 && max(e.Next, e.Log, e.Last) <= mostNum
	ok = ok && len(e.Adds) <= 200 && len(e.Dels) <= 200
	for _, f := range e.Adds {
		ok = ok && 1 <= f.Num && f.Num <= mostNum && 0 <= f.Level && f.Level <= 4 && 0 <= f.Size && f.Size <= 16777216
		ok = ok && strings.Compare(f.Small, f.Great) <= 0 && len(f.Small) <= 13000 && len(f.Great) <= 13000
	}
	for _, num := range e.Dels {
		ok = ok && 1 <= num && num <= mostNum
	}
	return ok
}

// numOf is a number of a table.
func numOf(i int) int64 {
	return int64(i)*int64(i)*int64(i)*977 + 1
}

// files are n ordinary files, no two alike.
func files(n int) []api.File {
	var l []api.File
	for i := range n {
		small := fmt.Sprintf("k%03d", i)
		l = append(l, api.File{Num: numOf(i), Level: i % 5, Size: 37 * i * i, Small: small, Great: small + xs(i%7)})
	}
	return l
}

// nums are n numbers of tables, not in order.
func nums(n int) []int64 {
	var l []int64
	for i := range n {
		l = append(l, numOf((i*7)%200))
	}
	return l
}

// some is an edit of all that is ordinary.
func some() api.Edit {
	return api.Edit{Next: 300, Log: 2, Last: 128, Adds: []api.File{
		{Num: 5, Level: 1, Size: 900, Small: "a", Great: "be"},
		{Num: 299, Level: 0, Size: 0, Small: "", Great: ""},
	}, Dels: []int64{7, 130, 1}}
}

// rightFiles are files at the edges of what an edit may add.
func rightFiles() []api.File {
	var l []api.File
	for _, num := range []int64{1, 2, 127, 128, 1 << 32, mostNum - 1, mostNum} {
		l = append(l, api.File{Num: num, Level: 2, Size: 9, Small: "a", Great: "b"})
	}
	for level := range 5 {
		l = append(l, api.File{Num: 3, Level: level, Size: 9, Small: "a", Great: "b"})
	}
	for _, size := range []int{0, 1, 127, 128, 1<<24 - 1, 1 << 24} {
		l = append(l, api.File{Num: 3, Level: 2, Size: size, Small: "a", Great: "b"})
	}
	for _, x := range rightTexts() {
		l = append(l, api.File{Num: 3, Level: 2, Size: 9, Small: x[0], Great: x[1]})
	}
	return l
}

// rightTexts are a Small and a Great that is not below it, by bytes.
func rightTexts() [][2]string {
	return [][2]string{
		{"", ""}, {"a", "a"}, {"", "a"}, {"a", "b"}, {"a", "ab"}, {"a", "a\x00"}, {"ab", "b"},
		{"\x00", "\x00"}, {"\x00", "\x00\x00"}, {"", "\x00"}, {"Z", "a"}, {"10", "9"},
		{"\x7f", "\x80"}, {"a", "\x80"}, {"\x80", "\xff"}, {"\xfe", "\xff"}, {"\xff", "\xff\x00"},
		{"z", "\u00e9"}, {"e\u0301", "\u00e9"}, {"\u00e9", "\u00e9"}, {"\uffff", "\U00010000"},
		{"\xc3", "\xc3\xa9"}, {"\xed\xa0\x80", "\xed\xa0\x81"},
		{xs(127), xs(128)}, {xs(128), xs(129)},
		{xs(12999), xs(13000)}, {xs(13000), xs(13000)}, {xs(13000), "y"}, {"", xs(13000)},
		{xs(12999) + "a", xs(12999) + "b"}, {strings.Repeat("\xff", 13000), strings.Repeat("\xff", 13000)},
	}
}

// wrongNums are numbers that no table has.
func wrongNums() []int64 {
	return []int64{
		0, -1, -2, -mostNum, math.MinInt64 + 1, math.MinInt64, -1 << 32, 1<<32 - 1<<62,
		mostNum + 1, mostNum + 2, 1 << 51, 1<<50 + 1<<49, 1<<62 + 5, math.MaxInt64 - 1, math.MaxInt64,
	}
}

// wrongFiles are files that no edit may add, each by one fault of its own.
func wrongFiles() []api.File {
	var l []api.File
	for _, num := range wrongNums() {
		l = append(l, api.File{Num: num, Level: 2, Size: 9, Small: "a", Great: "b"})
	}
	for _, level := range []int{-1, -2, 5, 6, 128, 256, 258, 1 << 32, 1<<32 + 2, math.MinInt, math.MinInt + 2, math.MaxInt} {
		l = append(l, api.File{Num: 3, Level: level, Size: 9, Small: "a", Great: "b"})
	}
	for _, size := range []int{-1, -2, -1 << 24, 1<<24 + 1, 1<<24 + 2, 1 << 25, 1 << 32, 1<<32 + 9, math.MinInt, math.MinInt + 9, math.MaxInt} {
		l = append(l, api.File{Num: 3, Level: 2, Size: size, Small: "a", Great: "b"})
	}
	for _, x := range wrongTexts() {
		l = append(l, api.File{Num: 3, Level: 2, Size: 9, Small: x[0], Great: x[1]})
	}
	return l
}

// wrongTexts are a Small and a Great that no file has.
func wrongTexts() [][2]string {
	l := [][2]string{
		{"", xs(13001)}, {"a", xs(13001)}, {"a", xs(26000)}, {"a", xs(1 << 16)},
		{xs(13001), "y"}, {xs(13001), xs(13001)}, {xs(13000), xs(13001)}, {xs(13001), xs(13002)}, {xs(1<<16 + 1), "y"},
	}
	for _, x := range rightTexts() {
		if x[0] != x[1] {
			l = append(l, [2]string{x[1], x[0]})
		}
	}
	return l
}

// accepted are edits that may be.
func accepted() []api.Edit {
	l := []api.Edit{
		{},
		{Next: 1}, {Log: 1}, {Last: 1}, {Next: mostNum}, {Log: mostNum}, {Last: mostNum},
		{Next: 1, Log: 2, Last: 3}, {Next: mostNum, Log: mostNum, Last: mostNum}, {Next: mostNum - 1, Log: 0, Last: mostNum},
		some(),
		{Adds: files(1)}, {Dels: nums(1)}, {Adds: files(2), Dels: nums(3)},
		{Next: 7, Adds: files(199), Dels: nums(199)}, {Adds: files(200)}, {Dels: nums(200)},
		{Next: 9, Log: 8, Last: 7, Adds: files(200), Dels: nums(200)},
		// The same table twice, as one that comes and as one that goes.
		{Adds: []api.File{files(2)[1], files(2)[1]}, Dels: []int64{7, 7}},
		{Adds: slices.Repeat(files(1), 200), Dels: slices.Repeat([]int64{1}, 200)},
		{Adds: []api.File{{Num: 7}}, Dels: []int64{7}},
		{Adds: []api.File{{Num: 1}}}, {Adds: []api.File{{Num: 1}, {Num: 1}}},
		{Adds: rightFiles(), Dels: []int64{1, mostNum}},
		{Next: 3, Adds: slices.Repeat([]api.File{{Num: mostNum, Level: 4, Size: 1 << 24, Small: xs(13000), Great: xs(13000)}}, 200)},
	}
	for _, f := range rightFiles() {
		l = append(l, api.Edit{Next: 2, Adds: []api.File{f}, Dels: []int64{f.Num}})
	}
	// Numbers of each length in bytes, on both sides of each edge.
	for i := range 51 {
		n := int64(1) << i
		l = append(l, api.Edit{Next: n, Log: n - 1, Last: n, Adds: []api.File{{Num: n, Size: int(n % (1<<24 + 1))}}, Dels: []int64{n, max(1, n-1)}})
	}
	return l
}

// refusal is an edit that may not be, and why.
type refusal struct {
	what string
	e    api.Edit
}

// refused are edits that may not be, each by a fault alone, and some by several.
func refused() []refusal {
	var l []refusal
	for _, n := range []int64{-1, -2, math.MinInt64, math.MinInt64 + 1, -1 << 32, mostNum + 1, mostNum + 2, 1 << 51, 1<<62 + 1, math.MaxInt64 - 1, math.MaxInt64} {
		next, log, last := some(), some(), some()
		next.Next, log.Log, last.Last = n, n, n
		l = append(l, refusal{fmt.Sprint("Next ", n), next}, refusal{fmt.Sprint("Log ", n), log}, refusal{fmt.Sprint("Last ", n), last})
		l = append(l, refusal{"Next alone", api.Edit{Next: n}}, refusal{"Log alone", api.Edit{Log: n}}, refusal{"Last alone", api.Edit{Last: n}})
	}
	for _, n := range []int{201, 202, 255, 256, 257, 400, 1<<16 + 1} {
		l = append(l, refusal{fmt.Sprint(n, " Adds"), api.Edit{Next: 1, Adds: slices.Repeat(files(1), n), Dels: nums(2)}})
		l = append(l, refusal{fmt.Sprint(n, " Dels"), api.Edit{Next: 1, Adds: files(2), Dels: slices.Repeat(nums(1), n)}})
	}
	for _, f := range wrongFiles() {
		l = append(l, refusal{"a file", api.Edit{Adds: []api.File{f}}})
		l = append(l, refusal{"a file among others", api.Edit{Next: 3, Adds: slices.Concat(files(2), []api.File{f}, files(3)), Dels: nums(2)}})
	}
	for _, num := range wrongNums() {
		l = append(l, refusal{fmt.Sprint("a Del ", num), api.Edit{Dels: []int64{num}}})
		l = append(l, refusal{fmt.Sprint("a Del among others ", num), api.Edit{Next: 3, Adds: files(2), Dels: slices.Concat(nums(2), []int64{num}, nums(3))}})
	}
	return append(l,
		refusal{"a zero file", api.Edit{Adds: make([]api.File, 1)}},
		refusal{"many zero files", api.Edit{Adds: make([]api.File, 200)}},
		refusal{"many zero Dels", api.Edit{Dels: make([]int64, 200)}},
		refusal{"all numbers", api.Edit{Next: -1, Log: -1, Last: -1}},
		refusal{"both lists", api.Edit{Adds: files(201), Dels: nums(201)}},
		refusal{"a number and a list", api.Edit{Last: mostNum + 1, Dels: nums(201)}},
		refusal{"an Add and a Del", api.Edit{Adds: make([]api.File, 2), Dels: make([]int64, 2)}},
		refusal{"all of a file", api.Edit{Adds: []api.File{{Num: -1, Level: -1, Size: -1, Small: xs(13002), Great: xs(13001)}}}})
}

package version

import (
	"fmt"
	"math/rand/v2"
	"slices"
	"strings"
	"testing"

	"incipit/api"
)

// drawing draws edits for a version, many of them such as may be.
type drawing struct {
	*rand.Rand
	m     *model
	texts []string
	most  int
}

// near draws 0 mostly, else a number near n.
func (d *drawing) near(n int64) int64 {
	switch d.IntN(12) {
	case 0:
		return n
	case 1:
		return n + 1
	case 2:
		return n + d.Int64N(9)
	case 3:
		if d.IntN(4) == 0 {
			return n - 1
		}
	}
	return 0
}

// span draws a Small and a Great that is not below it, and not far above.
func (d *drawing) span() (string, string) {
	i := d.IntN(len(d.texts))
	j := min(i+d.IntN(3), len(d.texts)-1)
	if d.IntN(20) == 0 {
		j = d.IntN(len(d.texts)-i) + i
	}
	return d.texts[i], d.texts[j]
}

// num draws the number of a table, mostly of one that is not there.
func (d *drawing) num(next int64) int64 {
	num := d.Int64N(next+1) + 1
	for range 9 {
		if num < next && !slices.ContainsFunc(d.m.tables, func(f api.File) bool { return f.Num == num }) {
			break
		}
		num = d.Int64N(next+1) + 1
	}
	return num
}

// dels draws numbers of tables that are there, each once, or almost so.
func (d *drawing) dels() []int64 {
	var l []int64
	for _, f := range d.m.tables {
		if d.IntN(d.most) == 0 {
			l = append(l, f.Num)
		}
	}
	d.Shuffle(len(l), func(i, j int) { l[i], l[j] = l[j], l[i] })
	if d.IntN(9) == 0 {
		l = append(l, d.Int64N(d.m.next+1))
	}
	return l
}

// adds draws tables, some of them with the number of one that goes.
func (d *drawing) adds(next int64, dels []int64) []api.File {
	var l []api.File
	for range d.IntN(4) {
		small, great := d.span()
		f := api.File{Num: d.num(next), Level: d.IntN(5), Size: d.IntN(5000), Small: small, Great: great}
		if len(dels) > 0 && d.IntN(5) == 0 {
			f.Num = dels[d.IntN(len(dels))]
		}
		// Mostly where there is room.
		for range d.IntN(4) {
			if f.Level > 0 && len(over(d.m.level(f.Level), small, great)) > 0 {
				f.Small, f.Great = d.span()
				small, great = f.Small, f.Great
			}
		}
		if d.IntN(20) == 0 {
			f.Level = d.IntN(8) - 1
		}
		l = append(l, f)
	}
	return l
}

// edit draws an edit.
func (d *drawing) edit() api.Edit {
	e := api.Edit{Next: d.near(d.m.next), Log: d.near(d.m.log), Last: d.near(d.m.last)}
	e.Dels = d.dels()
	e.Adds = d.adds(max(e.Next, d.m.next), e.Dels)
	return e
}

// drawn tells a version of drawn edits, each answer and what is told held
// against the model, and counts what was taken and refused.
func (d *drawing) drawn(t *testing.T, edits int, counts map[api.Errno]int) {
	p := pair{New(), d.m}
	start := d.Int64N(40) + 5
	p.ok(t, "a beginning", api.Edit{Next: start, Log: d.Int64N(start), Last: d.Int64N(9)})
	for i := range edits {
		counts[p.apply(t, fmt.Sprint("the drawn edit ", i), d.edit())]++
	}
}

func TestDrawnEdits(t *testing.T) {
	counts := map[api.Errno]int{}
	for seed := range uint64(120) {
		texts := anyTexts()
		slices.SortFunc(texts, strings.Compare)
		d := &drawing{rand.New(rand.NewPCG(20, seed)), newModel(), texts, 6}
		d.drawn(t, 60, counts)
	}
	if counts[api.OK] < 2000 || counts[api.ErrForm] < 2000 {
		t.Errorf("P20.1: of the drawn edits %d may be, and %d not", counts[api.OK], counts[api.ErrForm])
	}
}

func TestDrawnEditsOfManyTables(t *testing.T) {
	var texts []string
	for i := range 400 {
		texts = append(texts, fmt.Sprintf("t%03d", i))
	}
	counts := map[api.Errno]int{}
	full := 0
	for seed := range uint64(3) {
		d := &drawing{rand.New(rand.NewPCG(21, seed)), newModel(), texts, 200}
		p := pair{New(), d.m}
		p.ok(t, "many tables", api.Edit{Next: 1500, Adds: row(1, 170)})
		for i := range 200 {
			counts[p.apply(t, fmt.Sprint("the drawn edit ", i), d.edit())]++
			if len(d.m.tables) == 200 {
				full++
			}
		}
	}
	if counts[api.OK] < 150 || counts[api.ErrForm] < 150 || full < 20 {
		t.Errorf("P20.1: of the drawn edits %d may be, and %d not; %d are of 200 tables", counts[api.OK], counts[api.ErrForm], full)
	}
}

func TestDrawnOver(t *testing.T) {
	for seed := range uint64(60) {
		texts := anyTexts()
		slices.SortFunc(texts, strings.Compare)
		d := &drawing{rand.New(rand.NewPCG(22, seed)), newModel(), texts, 9}
		p := pair{New(), d.m}
		p.ok(t, "room", room())
		for range 20 {
			p.apply(t, "a drawn edit", d.edit())
		}
		wantOver(t, "drawn", p.v, p.m, texts)
	}
}

package pick

import (
	"fmt"
	"math/rand/v2"
	"slices"
	"testing"

	"incipit/api"
	"incipit/version"
)

// drawing draws tables.
type drawing struct {
	*rand.Rand
	texts []string
	nums  []int64
}

// newDrawing draws by a seed, of texts that rise.
func newDrawing(seed uint64, texts []string) *drawing {
	d := &drawing{Rand: rand.New(rand.NewPCG(22, seed)), texts: texts}
	for i := range int64(200) {
		d.nums = append(d.nums, i*i/3+i+1)
	}
	d.Shuffle(len(d.nums), func(i, j int) { d.nums[i], d.nums[j] = d.nums[j], d.nums[i] })
	return d
}

// num draws a number that was not drawn yet.
func (d *drawing) num() int64 {
	n := d.nums[0]
	d.nums = d.nums[1:]
	return n
}

// level0 draws tables of level 0, mostly few.
func (d *drawing) level0() model {
	n := d.IntN(4)
	if d.IntN(3) == 0 {
		n = d.IntN(9)
	}
	var m model
	for range n {
		i, j := d.IntN(len(d.texts)), d.IntN(len(d.texts))
		if d.IntN(2) == 0 {
			j = min(i+d.IntN(3), len(d.texts)-1)
		}
		m = append(m, file(d.num(), 0, d.IntN(3000), d.texts[min(i, j)], d.texts[max(i, j)]))
	}
	return m
}

// lower draws tables of another level, which have no text in common, of about
// as many bytes as it may have.
func (d *drawing) lower(level int) model {
	var m model
	for i := d.IntN(4); i < len(d.texts) && len(m) < 40; i++ {
		j := min(i+d.IntN(3), len(d.texts)-1)
		if d.IntN(6) > 0 {
			m = append(m, file(d.num(), level, 0, d.texts[i], d.texts[j]))
		}
		i = j + d.IntN(4)*d.IntN(2)
	}
	if len(m) == 0 || d.IntN(9) == 0 {
		return nil
	}
	rest := 500<<(2*level) - 1 + d.IntN(3)
	if d.IntN(4) == 0 {
		rest = d.IntN(600 << (2 * level))
	}
	for rest > 0 {
		n := min(rest, 1+d.IntN(100<<(2*level)))
		m[d.IntN(len(m))].Size += n
		rest -= n
	}
	return m
}

// tables draws tables of all levels, in any order.
func (d *drawing) tables() model {
	m := d.level0()
	for level := 1; level < 5; level++ {
		m = append(m, d.lower(level)...)
	}
	d.Shuffle(len(m), func(i, j int) { m[i], m[j] = m[j], m[i] })
	return m
}

// someTexts are rising texts, many or few.
func someTexts(n int) []string {
	if n == 0 {
		l := anyTexts()
		slices.Sort(l)
		return l
	}
	var l []string
	for i := range n {
		l = append(l, fmt.Sprintf("t%02d", i))
	}
	return l
}

func TestDrawnVersions(t *testing.T) {
	// How often each level is picked, and none; how many have Below; Bottom.
	levels, below, bottom := map[int]int{}, map[bool]int{}, map[bool]int{}
	for seed := range uint64(3000) {
		m := newDrawing(seed, someTexts([]int{0, 6, 20, 90}[seed%4])).tables()
		j, ok := m.wantAsModel(t, fmt.Sprint("the drawn version ", seed))
		if !ok {
			levels[-1]++
			continue
		}
		levels[j.Level]++
		below[len(j.Below) > 0]++
		if j.Level < 3 {
			bottom[j.Bottom]++
		}
	}
	for level := -1; level < 4; level++ {
		if levels[level] < 100 {
			t.Errorf("P22.1: of the drawn versions %v have that level picked", levels)
		}
	}
	if min(below[true], below[false], bottom[true], bottom[false]) < 100 {
		t.Errorf("P22.1: of the drawn versions %v have Below, and Bottom is %v", below, bottom)
	}
}

// done is what a version becomes by a job: its tables go, and one comes that
// holds all of them.
func done(t *testing.T, v *version.Version, j Job) {
	t.Helper()
	all := append(slices.Clone(j.Inputs), j.Below...)
	texts := ends(all)
	e := api.Edit{Next: v.Next() + 1, Dels: nums(all)}
	one := file(v.Next(), j.Level+1, 0, texts[0], texts[len(texts)-1])
	for _, f := range all {
		one.Size += f.Size
	}
	e.Adds = []api.File{one}
	if err := v.Apply(e); err != api.OK {
		t.Fatalf("P22.1: what %s makes: %v, of %s", shown(j), err, shown(v.All()))
	}
}

func TestJobsComeToAnEnd(t *testing.T) {
	jobs := 0
	for seed := range uint64(300) {
		v := newDrawing(seed, someTexts([]int{0, 6, 20, 90}[seed%4])).tables().made(t)
		for n := 0; ; n++ {
			want, wantOK := model(v.All()).next()
			wantJob(t, "behind jobs that were done", v, want, wantOK)
			j, ok := Next(v)
			if !ok {
				break
			}
			if n > 1000 {
				t.Fatalf("P22.1: there is no end of jobs: %s", shown(v.All()))
			}
			done(t, v, j)
			jobs++
		}
		if len(v.Level(0)) > 3 || Size(v, 1) > 2000 || Size(v, 2) > 8000 || Size(v, 3) > 32000 {
			t.Fatalf("P22.1: no job is left of %s", shown(v.All()))
		}
	}
	if jobs < 300 {
		t.Errorf("P22.1: %d jobs were done", jobs)
	}
}

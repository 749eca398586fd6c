package simfs

import (
	"fmt"
	"maps"
	"math/rand/v2"
	"slices"
	"strings"
	"testing"

	"incipit/api"
)

// model is what the chapter says of a file system, by another way: files have
// numbers, and each state of the directory since it was synced is kept whole.
type model struct {
	texts  []string
	synced []int
	states []map[string]int
	room   int
	calls  int
	fail   int
}

func newModel(room int) *model {
	return &model{states: []map[string]int{{}}, room: room, fail: -1}
}

// last is the directory as it is.
func (m *model) last() map[string]int {
	return m.states[len(m.states)-1]
}

// next lets a new state wait, and tells it.
func (m *model) next() map[string]int {
	m.states = append(m.states, maps.Clone(m.last()))
	return m.last()
}

func (m *model) used() int {
	n := 0
	for _, i := range m.last() {
		n += len(m.texts[i])
	}
	return n
}

// play does what a step says; only names of one letter are names here.
func (m *model) play(s step) api.Errno {
	m.calls++
	m.fail--
	if m.fail == -1 {
		return api.ErrIO
	}
	i, there := m.last()[s.name]
	if s.call == "Create" {
		switch {
		case len(s.name) != 1:
			return api.ErrForm
		case !there && len(m.last()) == api.MaxFiles:
			return api.ErrNoSpace
		}
		m.next()[s.name] = len(m.texts)
		m.texts, m.synced = append(m.texts, ""), append(m.synced, 0)
		return api.OK
	}
	if s.call == "SyncDir" {
		m.states = m.states[len(m.states)-1:]
		return api.OK
	}
	if !there {
		return api.ErrNotFound
	}
	switch s.call {
	case "Append":
		if m.used()+len(s.text) > m.room {
			return api.ErrNoSpace
		}
		m.texts[i] += s.text
	case "Sync":
		m.synced[i] = len(m.texts[i])
	case "Rename":
		if len(s.to) != 1 {
			return api.ErrForm
		}
		state := m.next()
		delete(state, s.name)
		state[s.to] = i
	case "Remove":
		delete(m.next(), s.name)
	}
	return api.OK
}

// crash is the chapter's.
func (m *model) crash(n int, tails []int) *model {
	state := m.states[min(max(n, 0), len(m.states)-1)]
	left := newModel(m.room)
	for k, name := range slices.Sorted(maps.Keys(state)) {
		text, synced := m.texts[state[name]], m.synced[state[name]]
		end := synced
		if k < len(tails) && tails[k] > 0 {
			end = min(synced+tails[k], len(text))
		}
		left.texts = append(left.texts, text[:end])
		left.synced = append(left.synced, end)
		left.states[0][name] = k
	}
	return left
}

func (m *model) spoil(name string, at int, x byte) api.Errno {
	i, there := m.last()[name]
	if !there {
		return api.ErrNotFound
	}
	if at < 0 || at >= len(m.texts[i]) {
		return api.ErrRange
	}
	text := []byte(m.texts[i])
	text[at] ^= x
	m.texts[i] = string(text)
	return api.OK
}

func (m *model) told() string {
	s := ""
	for _, name := range slices.Sorted(maps.Keys(m.last())) {
		s += name + "=" + m.texts[m.last()[name]] + " "
	}
	return s
}

// step is a changing call.
type step struct{ call, name, to, text string }

func play(f *FS, s step) api.Errno {
	switch s.call {
	case "Create":
		return f.Create(s.name)
	case "Append":
		return f.Append(s.name, []byte(s.text))
	case "Sync":
		return f.Sync(s.name)
	case "SyncDir":
		return f.SyncDir()
	case "Rename":
		return f.Rename(s.name, s.to)
	}
	return f.Remove(s.name)
}

// somebody makes a step of few names and short texts.
func somebody(r *rand.Rand) step {
	calls := []string{"Create", "Create", "Append", "Append", "Append", "Append", "Sync", "Sync", "SyncDir", "Rename", "Rename", "Remove"}
	names := []string{"a", "b", "c", "D", "."}
	name := func() string {
		if r.IntN(20) == 0 {
			return ""
		}
		return names[r.IntN(len(names))]
	}
	text := strings.Repeat(string(rune('a'+r.IntN(26))), r.IntN(4)) + strings.Repeat("x", r.IntN(3))
	return step{calls[r.IntN(len(calls))], name(), name(), text}
}

// wantAlike fails unless f stands as m does.
func wantAlike(t *testing.T, what string, f *FS, m *model) {
	t.Helper()
	if told(f) != m.told() || f.Used() != m.used() || f.Calls() != m.calls {
		t.Fatalf("%s: %q, %d bytes, %d calls; not %q, %d, %d", what, told(f), f.Used(), f.Calls(), m.told(), m.used(), m.calls)
	}
}

// aside does what is no changing call, and tells the file systems with which it
// goes on.
func aside(t *testing.T, r *rand.Rand, f *FS, m *model) (*FS, *model) {
	t.Helper()
	switch r.IntN(12) {
	case 0:
		n := r.IntN(8) - 2
		f.Fail(n)
		m.fail = n
		if n < 0 {
			m.fail = -1
		}
	case 1:
		n := r.IntN(60) - 5
		f.Room(n)
		m.room = max(n, 0)
	case 2, 3:
		name, at, x := somebody(r).name, r.IntN(9)-2, byte(r.IntN(2))
		if got, err := f.Spoil(name, at, x), m.spoil(name, at, x); got != err {
			t.Fatalf("P10.3: Spoil(%q, %d): %d, not %d", name, at, got, err)
		}
	case 4, 5, 6:
		n := r.IntN(8) - 1
		tails := make([]int, r.IntN(7))
		for i := range tails {
			tails[i] = r.IntN(9) - 1
		}
		c, left := f.Crash(n, tails), m.crash(n, tails)
		wantAlike(t, fmt.Sprintf("P10.3: Crash(%d, %d)", n, tails), c, left)
		if r.IntN(4) == 0 {
			return c, left
		}
		// What is done to the new one must not be seen in the old one.
		for range 5 {
			play(c, somebody(r))
		}
	}
	return f, m
}

func TestManySteps(t *testing.T) {
	for seed := range uint64(400) {
		r := rand.New(rand.NewPCG(seed, 10))
		f, m := New(30), newModel(30)
		for k := range 300 {
			s := somebody(r)
			got, err := play(f, s), m.play(s)
			if got != err {
				t.Fatalf("P10.1: seed %d, step %d %+v: error %d, not %d", seed, k, s, got, err)
			}
			wantAlike(t, fmt.Sprintf("P10.1: seed %d, step %d %+v", seed, k, s), f, m)
			f, m = aside(t, r, f, m)
			wantAlike(t, fmt.Sprintf("P10.2: seed %d, behind step %d", seed, k), f, m)
		}
	}
}

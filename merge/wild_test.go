package merge

import (
	"errors"
	"fmt"
	"testing"

	"incipit/api"
)

// falling tells a list, and panics when it is asked for more.
type falling struct {
	counted
	with any
}

func (f *falling) Next() (api.Entry, bool) {
	if f.asked >= len(f.l) {
		f.asked++
		panic(f.with)
	}
	return f.counted.Next()
}

// byFunction is a source that cannot be held against another one.
type byFunction func() (api.Entry, bool)

func (f byFunction) Next() (api.Entry, bool) {
	return f()
}

// within is a source of another one.
type within struct {
	Source
}

func TestSourcesThatPanicHaveNoMore(t *testing.T) {
	a, b, c := entry("a", 3, 1, "1"), entry("b", 2, 1, "2"), entry("c", 1, 1, "3")
	for _, with := range []any{"a text", errors.New("an error"), 7, nil} {
		for n := range 3 {
			f := &falling{counted{l: []api.Entry{a, c}[:n]}, with}
			lists := [][]api.Entry{f.l, {b}}
			m := New([]Source{f, Slice([]api.Entry{b})})
			wantTold(t, fmt.Sprint("falls behind ", n), m, plain(lists))
			if f.asked != n+1 {
				t.Errorf("P18.1: asked %d times, though it fell at %d", f.asked, n+1)
			}
		}
	}
}

func TestSourcesOfNothing(t *testing.T) {
	b := entry("b", 2, 1, "2")
	for name, s := range map[string]Source{
		"a nil pointer": (*counted)(nil), "a nil function": byFunction(nil),
		"a nil source within": within{}, "a nil pointer within": within{(*counted)(nil)},
		"a nil pointer to what has none": (*within)(nil), "a nil Merged": (*Merged)(nil),
	} {
		wantTold(t, name, New([]Source{s, Slice([]api.Entry{b}), s}), []api.Entry{b})
		wantTold(t, name+" alone", New([]Source{s}), nil)
	}
}

func TestSourcesOfOtherKinds(t *testing.T) {
	l := []api.Entry{entry("a", 9, 1, "1"), entry("b", 9, 1, "2"), entry("c", 9, 1, "3")}
	next := &counted{l: l}
	m := New([]Source{byFunction(next.Next), within{Slice(l)}, &within{Slice(l)}})
	wantTold(t, "other kinds", m, plain([][]api.Entry{l, l, l}))
}

func TestSourceThatStandsTwice(t *testing.T) {
	c := &counted{l: []api.Entry{entry("a", 9, 1, "1"), entry("b", 9, 1, "2"), entry("c", 9, 1, "3")}}
	m := New([]Source{c, c})
	if c.asked != 2 {
		t.Errorf("P18.1: asked %d times by New", c.asked)
	}
	wantNext(t, "twice", m, c.l[0])
	wantNext(t, "twice", m, c.l[1])
	wantNext(t, "twice", m, c.l[2])
}

func TestSourceThatAsksItsMerged(t *testing.T) {
	l := []api.Entry{entry("a", 9, 1, "1"), entry("b", 9, 1, "2"), entry("c", 9, 1, "3")}
	var m *Merged
	depth, deepest := 0, 0
	self := byFunction(func() (api.Entry, bool) {
		depth++
		deepest = max(deepest, depth)
		defer func() { depth-- }()
		if depth > 5 {
			return api.Entry{}, false
		}
		if m == nil {
			return l[0], true
		}
		return m.Next()
	})
	m = New([]Source{self, Slice(l[1:])})
	wantNext(t, "of its own", m, l[0])
	wantNext(t, "of the others", m, l[1])
	wantNext(t, "of the others", m, l[2])
	wantEnd(t, "of its own", m)
	if deepest != 1 {
		t.Errorf("P0.1: it was asked %d times within one another", deepest)
	}
}

func TestCopyOfAMergedGoesOnWithIt(t *testing.T) {
	lists := [][]api.Entry{
		{entry("a", 9, 1, "1"), entry("b", 9, 1, "2"), entry("d", 9, 1, "3")},
		{entry("c", 9, 1, "4")}, {entry("c", 9, 1, "5"), entry("e", 9, 1, "6")},
	}
	sources, _ := countedOf(lists)
	m := New(sources)
	other := *m
	for k, e := range plain(lists) {
		wantNext(t, fmt.Sprint("at ", k), []*Merged{m, &other}[k%2], e)
	}
	wantEnd(t, "the Merged", m)
	wantEnd(t, "its copy", &other)
}

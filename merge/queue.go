package merge

import (
	"container/heap"

	"incipit/api"
	"incipit/ikey"
)

// front is where a source has come to.
type front struct {
	// entry is what its source told last, and what is told of it next.
	entry api.Entry
	next  func() (api.Entry, bool)
	// place is where its source stands among the others.
	place int
}

// advance asks the source for its next entry; false: there is none.
func (f *front) advance() (ok bool) {
	// A source that panics told nothing: ok is still false then.
	defer func() { _ = recover() }()
	f.entry, ok = f.next()
	return ok
}

// queue is a heap of fronts: the one whose entry is to be told next is on top.
type queue []*front

// take takes out the front that is on top.
func (q *queue) take() *front {
	return heap.Pop(q).(*front)
}

// Len tells how many fronts there are.
func (q queue) Len() int {
	return len(q)
}

// Less tells whether the entry of the front i is told ahead of that of j: of
// equal entries that of the earlier source is.
func (q queue) Less(i, j int) bool {
	if q[i].place < q[j].place {
		return !ikey.Less(q[j].entry, q[i].entry)
	}
	return ikey.Less(q[i].entry, q[j].entry)
}

// Swap lets two fronts change places.
func (q queue) Swap(i, j int) {
	q[i], q[j] = q[j], q[i]
}

// Push puts a front, x, behind the others: package heap moves it to its place.
func (q *queue) Push(x any) {
	*q = append(*q, x.(*front))
}

// Pop takes out the last front.
func (q *queue) Pop() any {
	last := len(*q) - 1
	f := (*q)[last]
	// Or a source would be kept that is at its end.
	(*q)[last] = nil
	*q = (*q)[:last]
	return f
}

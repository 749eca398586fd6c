package edit

import (
	"incipit/api"
	"incipit/varint"
)

// reader takes what Encode put together off the front of bytes. Where what it
// is asked for does not stand there, it is broken, and tells zero values from
// then on: so nobody but isDone needs to be asked, at the end.
type reader struct {
	rest   []byte
	broken bool
}

// isDone tells whether all bytes were taken, and were what was asked for.
func (r *reader) isDone() bool {
	return !r.broken && len(r.rest) == 0
}

// giveUp breaks r.
func (r *reader) giveUp() {
	r.broken, r.rest = true, nil
}

// skip leaves out the first n bytes, which were read; 0: there was nothing to
// be read.
func (r *reader) skip(n int) {
	if n == 0 {
		r.giveUp()
		return
	}
	r.rest = r.rest[n:]
}

// number takes a number.
func (r *reader) number() int64 {
	n, size := varint.Get(r.rest)
	r.skip(size)
	// One that no int64 holds goes round to one below 0, and no number of an
	// edit is such: Check finds it.
	return int64(n)
}

// text takes a text.
func (r *reader) text() string {
	s, size := varint.GetText(r.rest)
	r.skip(size)
	return s
}

// count takes how long a list is.
func (r *reader) count() int {
	n := r.number()
	// Not left to Check: so long a list is not even made.
	if n < 0 || n > maxList {
		r.giveUp()
		return 0
	}
	return int(n)
}

// files takes a list of files.
func (r *reader) files() []api.File {
	var l []api.File
	for range r.count() {
		l = append(l, r.file())
	}
	return l
}

// file takes a file.
func (r *reader) file() api.File {
	var f api.File
	f.Num = r.number()
	f.Level = int(r.number())
	f.Size = int(r.number())
	f.Small = r.text()
	f.Great = r.text()
	return f
}

// numbers takes a list of numbers.
func (r *reader) numbers() []int64 {
	var l []int64
	for range r.count() {
		l = append(l, r.number())
	}
	return l
}

package simfs

import (
	"maps"
	"slices"
)

// file is bytes that grow at their end alone, of which the first so many are
// synced.
type file struct {
	bytes  []byte
	synced int
}

// crash tells the file that is left of f: its synced bytes, and so many of the
// others, all synced.
func (f *file) crash(tail int) *file {
	end := f.synced + within(tail, len(f.bytes)-f.synced)
	return &file{bytes: slices.Clone(f.bytes[:end]), synced: end}
}

// directory names files.
type directory map[string]*file

// change is one of a directory's: nothing is named from any more, and file is
// named to. Of a file that is made there is no from, of one that goes no to
// and no file.
type change struct {
	from string
	to   string
	file *file
}

// names tells all names, rising.
func (d directory) names() []string {
	return slices.Sorted(maps.Keys(d))
}

// take makes the change.
func (d *directory) take(c change) {
	// A directory that nothing was told yet is nil.
	if *d == nil {
		*d = directory{}
	}
	// In this order, so that a file that is named to its own name stays.
	delete(*d, c.from)
	if c.file != nil {
		(*d)[c.to] = c.file
	}
}

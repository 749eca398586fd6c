package manifest

import (
	"bytes"
	"slices"
	"strconv"
	"strings"

	"incipit/api"
	"incipit/crc"
	"incipit/simfs"
	"incipit/varint"
)

// current names the manifest; beside is what a file is named until all of it is
// synced.
const (
	current = "CURRENT"
	beside  = "beside"
)

// What the names of numbered files end in.
const (
	manEnd   = ".man"
	tableEnd = ".tab"
	logEnd   = ".log"
)

// maxNum is the greatest number of a file.
const maxNum = 1 << 50

// Old tells the names of files that are needed no more, rising.
func (m *Manifest) Old() []string {
	if m == nil {
		return nil
	}
	needed := m.needed()
	return slices.DeleteFunc(m.files.Names(), func(name string) bool {
		return slices.Contains(needed, name) || isLogFrom(m.now.Log(), name)
	})
}

// needed are the names of CURRENT, of the manifest, and of the tables.
func (m *Manifest) needed() []string {
	l := []string{current, manName(m.num)}
	// Where a change of the files failed, CURRENT may name the next manifest
	// already.
	if num, err := named(m.files); err == api.OK {
		l = append(l, manName(num))
	}
	for _, f := range m.now.All() {
		l = append(l, numbered(f.Num, tableEnd))
	}
	return l
}

// isLogFrom tells whether name is that of a log whose number is not below least.
func isLogFrom(least int64, name string) bool {
	num, err := strconv.ParseInt(strings.TrimSuffix(name, logEnd), 10, 64)
	if err != nil || num < least || num > maxNum {
		return false
	}
	return numbered(num, logEnd) == name
}

// manName tells the name of the file of the manifest num.
func manName(num int64) string {
	return numbered(num, manEnd)
}

// numbered tells the name of a file that has a number.
func numbered(num int64, end string) string {
	return strconv.FormatInt(num, 10) + end
}

// named tells the number of the manifest that CURRENT names.
func named(f *simfs.FS) (int64, api.Errno) {
	b, err := f.Read(current)
	if err != api.OK {
		return 0, err
	}
	num := int64(varint.Get64(b))
	if !bytes.Equal(b, pointer(num)) {
		return 0, api.ErrCorrupt
	}
	return num, api.OK
}

// pointer makes the bytes of a CURRENT that names the manifest num: the number,
// and a sum.
func pointer(num int64) []byte {
	b := varint.Put64(uint64(num))
	return append(b, varint.Put32(crc.Sum(b))...)
}

// put lays b into a file of that name. The name turns to the file when all of it
// is synced, so that a crash keeps all of b, or what was named so.
func put(f *simfs.FS, name string, b []byte) api.Errno {
	if err := f.Create(beside); err != api.OK {
		return err
	}
	if err := f.Append(beside, b); err != api.OK {
		return err
	}
	if err := f.Sync(beside); err != api.OK {
		return err
	}
	return f.Rename(beside, name)
}

package table

import (
	"slices"

	"incipit/api"
	"incipit/block"
	"incipit/varint"
)

// putBlock lays the first entries of l into a block, until it is great enough,
// and tells how many these are. The entries of one Norm share a row: so the
// Norm itself, with no other bytes, is the key by which the rows rise.
func putBlock(l []api.Entry) ([]byte, int) {
	b := block.New()
	n := 0
	for n < len(l) && b.Size() < api.BlockSize {
		norm := l[n].Norm
		var versions []byte
		// A row ends with its block, too, as there may be many of one Norm.
		for n < len(l) && l[n].Norm == norm && b.Size()+len(versions) < api.BlockSize {
			versions = append(versions, putVersion(l[n])...)
			n++
		}
		b.Add(norm, string(versions))
	}
	return b.Bytes(), n
}

// getBlock tells the entries of a block that putBlock made and seal closed;
// nil, false: it is spoilt.
func getBlock(b []byte) ([]api.Entry, bool) {
	b, ok := unseal(b)
	if !ok {
		return nil, false
	}
	rows, err := block.Read(b)
	if err != api.OK {
		return nil, false
	}
	var l []api.Entry
	for _, row := range rows {
		versions, ok := getVersions(row)
		if !ok {
			return nil, false
		}
		l = append(l, versions...)
	}
	return l, true
}

// getVersions tells the entries of a row; nil, false: it has other bytes.
func getVersions(row block.Row) ([]api.Entry, bool) {
	var l []api.Entry
	for b := []byte(row.Value); len(b) > 0; {
		e, size := getVersion(row.Key, b)
		if size == 0 {
			return nil, false
		}
		l, b = append(l, e), b[size:]
	}
	return l, true
}

// putVersion makes the bytes of e, but for its Norm.
func putVersion(e api.Entry) []byte {
	return slices.Concat(varint.Put(uint64(e.Seq)), varint.Put(uint64(e.Kind)), varint.Text(e.Spelling), varint.Text(e.Value))
}

// getVersion tells the entry of norm whose other bytes b begins with, and how
// many these are; a zero one, 0: there is none.
func getVersion(norm string, b []byte) (api.Entry, int) {
	seq, i := varint.Get(b)
	kind, j := varint.Get(b[i:])
	spelling, k := varint.GetText(b[i+j:])
	value, m := varint.GetText(b[i+j+k:])
	if i == 0 || j == 0 || k == 0 || m == 0 {
		return api.Entry{}, 0
	}
	return api.Entry{Norm: norm, Seq: int64(seq), Kind: int(kind), Spelling: spelling, Value: value}, i + j + k + m
}

package table

import (
	"incipit/api"
	"incipit/bloom"
	"incipit/ikey"
)

// Build makes the bytes of a table of l; nil, ErrForm: there is none of such
// entries.
func Build(l []api.Entry) ([]byte, api.Errno) {
	if !areRight(l) {
		return nil, api.ErrForm
	}
	var blocks, index []byte
	for rest := l; len(rest) > 0; {
		b, count := putBlock(rest)
		b = seal(b)
		blocks = append(blocks, b...)
		index = append(index, putPart(part{last: rest[count-1], size: len(b), count: count})...)
		rest = rest[count:]
	}
	return putTogether(blocks, bloom.Make(norms(l)), index), api.OK
}

// areRight tells whether there is a table of l.
func areRight(l []api.Entry) bool {
	if len(l) == 0 || !ikey.Sorted(l) {
		return false
	}
	for i, e := range l {
		// Sorted does with two that differ in their Kind alone.
		if !isRight(e) || i > 0 && e.Norm == l[i-1].Norm && e.Seq == l[i-1].Seq {
			return false
		}
	}
	return true
}

// isRight tells whether e may be in a table.
func isRight(e api.Entry) bool {
	if e.Seq < 1 || e.Seq > api.MaxSeq {
		return false
	}
	return e.Kind == api.KPut || e.Kind == api.KDel && e.Value == ""
}

// norms tells each Norm of l, which is sorted, once.
func norms(l []api.Entry) []string {
	var norms []string
	for i, e := range l {
		if i == 0 || e.Norm != l[i-1].Norm {
			norms = append(norms, e.Norm)
		}
	}
	return norms
}

package version

import (
	"cmp"
	"slices"
	"strings"

	"incipit/api"
)

// maxTables is how many tables a version has at most.
const maxTables = 200

// without tells a new list of tables but for those of the numbers dels; nil,
// false: one of these is not there, or stands in dels twice.
func without(tables []api.File, dels []int64) ([]api.File, bool) {
	left := slices.Clone(tables)
	for _, num := range dels {
		i := find(left, num)
		if i < 0 {
			return nil, false
		}
		left = slices.Delete(left, i, i+1)
	}
	return left, true
}

// with puts adds among tables, a list that may be written into, and tells all in
// order; nil, false: they may not stand there together.
func with(tables, adds []api.File) ([]api.File, bool) {
	if len(tables)+len(adds) > maxTables {
		return nil, false
	}
	for _, f := range adds {
		if find(tables, f.Num) >= 0 {
			return nil, false
		}
		// A piece of a longer text would keep all of that in memory.
		f.Small, f.Great = strings.Clone(f.Small), strings.Clone(f.Great)
		tables = append(tables, f)
	}
	slices.SortFunc(tables, order)
	if !areApart(tables) {
		return nil, false
	}
	return tables, true
}

// find tells the place of the table of that number; -1: it is not there.
func find(tables []api.File, num int64) int {
	return slices.IndexFunc(tables, func(f api.File) bool { return f.Num == num })
}

// order compares tables by where they stand in a version.
func order(a, b api.File) int {
	if a.Level == 0 && b.Level == 0 {
		return cmp.Compare(b.Num, a.Num)
	}
	return cmp.Or(cmp.Compare(a.Level, b.Level), strings.Compare(a.Small, b.Small))
}

// areApart tells whether no two tables of one level above 0 have a text in
// common, of tables that are in order.
func areApart(tables []api.File) bool {
	for i := 1; i < len(tables); i++ {
		// Neighbours are enough: what meets one further on meets the next, too,
		// as that begins no later.
		f, next := tables[i-1], tables[i]
		if f.Level > 0 && f.Level == next.Level && meets(f, next.Small, next.Great) {
			return false
		}
	}
	return true
}

// meets tells whether f has a text from small to great, both within.
func meets(f api.File, small, great string) bool {
	return small <= great && f.Small <= great && small <= f.Great
}

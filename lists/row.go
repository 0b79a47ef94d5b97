package lists

import (
	"slices"

	"gridiron/api"
	"gridiron/item"
	"gridiron/rank"
)

// Row is points by one of their coordinates, and then by their names.
type Row struct {
	At    []int64
	Names []uint32
}

// ByX puts points in a row by X.
func ByX(l []api.Point) Row {
	var r Row
	for _, p := range slices.SortedFunc(slices.Values(l), item.ByX) {
		r.Add(p.X, p.ID)
	}
	return r
}

// Add puts a point behind all others, none of which stands behind it.
func (r *Row) Add(at int64, name uint32) {
	r.At = append(r.At, at)
	r.Names = append(r.Names, name)
}

// Find tells the place of the point of that name that stands there, or that there is none.
func (r *Row) Find(at int64, name uint32) (int, bool) {
	from, to, _ := r.Between(at, at)
	ahead, ok := slices.BinarySearch(r.Names[from:to], name)
	return from + ahead, ok
}

// Between tells from which place on, and ahead of which one, points stand from lo to hi, which is not less, and how many cells were looked at for that.
func (r *Row) Between(lo, hi int64) (int, int, int) {
	from, looked := rank.First(r.At, lo)
	to, seen := rank.Above(r.At, hi)
	return from, to, looked + seen
}

package band

import (
	"gridiron/alive"
	"gridiron/lists"
)

// list is a node's points by Y, of which some are there no more.
type list struct {
	row   lists.Row
	names alive.Names
}

// listOf makes a list of points that are all there.
func listOf(row lists.Row) list {
	return list{row: row, names: alive.NamesOf(row.Names)}
}

// between tells the names of the points that are there from y1 to y2, and how many cells were looked at.
func (l *list) between(y1, y2 int64) ([]uint32, int) {
	from, to, looked := l.row.Between(y1, y2)
	names := l.names.Between(from, to)
	return names, looked + len(names)
}

// count tells how many points are there from y1 to y2, and how many cells were looked at.
func (l *list) count(y1, y2 int64) (int, int) {
	from, to, looked := l.row.Between(y1, y2)
	return l.names.Count(from, to), looked
}

// has tells whether the point of that name is there, at y.
func (l *list) has(y int64, name uint32) bool {
	place, ok := l.row.Find(y, name)
	return ok && l.names.Has(place)
}

// drop takes out the point of that name that is there, at y.
func (l *list) drop(y int64, name uint32) {
	place, _ := l.row.Find(y, name)
	l.names.Drop(place)
}

package band

import (
	"slices"

	"gridiron/alive"
	"gridiron/rank"
)

// order is points by one coordinate, and then by their names.
type order struct {
	at    []int64
	names []uint32
}

// add puts a point behind all others, none of which stands behind it.
func (o *order) add(at int64, name uint32) {
	o.at = append(o.at, at)
	o.names = append(o.names, name)
}

// find tells the place of the point of that name that stands there, or that there is none.
func (o *order) find(at int64, name uint32) (int, bool) {
	from, _ := rank.First(o.at, at)
	to, _ := rank.Above(o.at, at)
	ahead, ok := slices.BinarySearch(o.names[from:to], name)
	return from + ahead, ok
}

// list is a node's points by Y, of which some are there no more.
type list struct {
	order
	there   alive.Runs
	dropped alive.Drops
}

// listOf makes a list of points that are all there.
func listOf(o order) list {
	return list{order: o, there: alive.RunsOf(len(o.at)), dropped: alive.DropsOf(len(o.at))}
}

// between tells the names of the points that are there from y1 to y2, and how many cells were looked at.
func (l *list) between(y1, y2 int64) ([]uint32, int) {
	var names []uint32
	first, looked := rank.First(l.at, y1)
	for place := l.there.From(first); place < len(l.at); place = l.there.From(place + 1) {
		looked++
		if l.at[place] > y2 {
			break
		}
		names = append(names, l.names[place])
	}
	return names, looked
}

// count tells how many points are there from y1 to y2, and how many cells were looked at.
func (l *list) count(y1, y2 int64) (int, int) {
	from, looked := rank.First(l.at, y1)
	to, seen := rank.Above(l.at, y2)
	fewer, cells := l.dropped.Ahead(from)
	more, others := l.dropped.Ahead(to)
	return to - from - (more - fewer), looked + seen + cells + others
}

// has tells whether the point of that name is there, at y.
func (l *list) has(y int64, name uint32) bool {
	place, ok := l.find(y, name)
	return ok && l.there.Has(place)
}

// drop takes out the point of that name that is there, at y.
func (l *list) drop(y int64, name uint32) {
	place, _ := l.find(y, name)
	l.there.Drop(place)
	l.dropped.Add(place)
}

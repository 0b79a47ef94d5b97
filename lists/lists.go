// Package lists is beside the layers: it tells what several of them ask of the lists that they are handed, and puts points in a row.
package lists

import (
	"gridiron/api"
	"gridiron/item"
	"gridiron/rank"
)

// RightSpans tells whether all spans are right, and no two of one name.
func RightSpans(l []api.Span) bool {
	isNew := names()
	for _, x := range l {
		if !isNew(x.ID) || !item.RightSpan(x) {
			return false
		}
	}
	return true
}

// RightPoints tells whether no two points are of one name.
func RightPoints(l []api.Point) bool {
	isNew := names()
	for _, p := range l {
		if !isNew(p.ID) {
			return false
		}
	}
	return true
}

// Ends tells the ends of all spans, each once, rising.
func Ends(l []api.Span) []int64 {
	list := make([]int64, 0, 2*len(l))
	for _, x := range l {
		list = append(list, x.Lo, x.Hi)
	}
	return rank.Squeeze(list)
}

// names makes a call that tells whether it is handed a name for the first time.
func names() func(name uint32) bool {
	times := map[uint32]int{}
	return func(name uint32) bool {
		times[name]++
		return times[name] == 1
	}
}

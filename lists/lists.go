// Package lists is beside the layers: it tells what several of them ask of the lists that they are handed.
package lists

import (
	"gridiron/api"
	"gridiron/item"
	"gridiron/rank"
)

// RightSpans tells whether all spans are right, and no two of one name.
func RightSpans(l []api.Span) bool {
	times := map[uint32]int{}
	for _, x := range l {
		times[x.ID]++
		if times[x.ID] > 1 || !item.RightSpan(x) {
			return false
		}
	}
	return true
}

// Ends tells the ends of all spans, each once, rising.
func Ends(l []api.Span) []int64 {
	list := make([]int64, 0, 2*len(l))
	for _, x := range l {
		list = append(list, x.Lo, x.Hi)
	}
	return rank.Squeeze(list)
}

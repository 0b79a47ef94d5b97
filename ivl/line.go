package ivl

import (
	"slices"

	"gridiron/alive"
	"gridiron/api"
)

// line is spans that stand in some order, of which some are there no more.
type line struct {
	spans []api.Span
	there alive.Runs
}

// lay makes a line of spans that are all there.
func lay(spans []api.Span) line {
	return line{spans: spans, there: alive.RunsOf(len(spans))}
}

// end tells the place behind the last one.
func (l *line) end() int {
	return len(l.spans)
}

// while goes through those that are there from the place from on, ahead of to, as long as it is so of them, and tells the names of those, and how many it looked at.
func (l *line) while(from, to int, so func(s api.Span) bool) ([]uint32, int) {
	var names []uint32
	looked := 0
	for place := l.there.From(from); place < to; place = l.there.From(place + 1) {
		looked++
		s := l.spans[place]
		if !so(s) {
			break
		}
		names = append(names, s.ID)
	}
	return names, looked
}

// drop takes x out, which stands from the place from on, ahead of to, if anywhere, and tells whether it was there; what stands there is in that order.
func (l *line) drop(from, to int, x api.Span, order func(s, t api.Span) int) bool {
	ahead, _ := slices.BinarySearchFunc(l.spans[from:to], x, order)
	place := from + ahead
	if place >= to || l.spans[place] != x || !l.there.Has(place) {
		return false
	}
	l.there.Drop(place)
	return true
}

package ivl

import (
	"slices"

	"gridiron/api"
)

// line is spans that stand in some order, of which some are there no more. Their places count from 1 on; 0 is ahead of all.
type line struct {
	spans []api.Span
	runs  []run
	of    []int // by places, the run that has it
}

// run is all places from first on, ahead of end: the first one is there (or 0), the others are there no more. So nobody who goes from run to run goes over what is dropped.
type run struct {
	first, end int
}

// lay makes a line of spans that are all there.
func lay(spans []api.Span) line {
	l := line{spans: spans, runs: make([]run, len(spans)+1), of: make([]int, len(spans)+1)}
	for place := range l.of {
		l.runs[place] = run{first: place, end: place + 1}
		l.of[place] = place
	}
	return l
}

// end tells the last place.
func (l *line) end() int {
	return len(l.spans)
}

// while goes through those that are there behind the place from, up to the place to, as long as it is so of them, and tells the names of those, and how many it looked at.
func (l *line) while(from, to int, so func(s api.Span) bool) ([]uint32, int) {
	var names []uint32
	looked := 0
	for place := l.behind(from); place <= to; place = l.behind(place) {
		looked++
		s := l.spans[place-1]
		if !so(s) {
			break
		}
		names = append(names, s.ID)
	}
	return names, looked
}

// drop takes x out, which stands behind the place from, up to the place to, if anywhere, and tells whether it was there; what stands there is in that order.
func (l *line) drop(from, to int, x api.Span, order func(s, t api.Span) int) bool {
	ahead, _ := slices.BinarySearchFunc(l.spans[from:to], x, order)
	place := from + ahead + 1
	if place > to || l.spans[place-1] != x || !l.there(place) {
		return false
	}
	l.join(place)
	return true
}

// behind tells the first place behind this one whose span is there.
func (l *line) behind(place int) int {
	return l.runs[l.of[place]].end
}

// there tells whether the span of that place is there.
func (l *line) there(place int) bool {
	return l.runs[l.of[place]].first == place
}

// join makes one run of that which begins at place and the one ahead of it.
func (l *line) join(place int) {
	kept, lost := l.of[place-1], l.of[place]
	whole := run{first: l.runs[kept].first, end: l.runs[lost].end}
	// The shorter one is lost: each time a place goes to another run, its run is twice as long at least, so none does often.
	if place-whole.first < whole.end-place {
		kept, lost = lost, kept
	}
	for at := l.runs[lost].first; at < l.runs[lost].end; at++ {
		l.of[at] = kept
	}
	l.runs[kept] = whole
}

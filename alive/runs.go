// Package alive is beside the layers: of places in a row, of which some were dropped, and of the names that stand there, it tells which are there, and how many.
package alive

// Runs are the places from 0 on, ahead of an end, each of which is there till it is dropped. The end is a place that is always there.
type Runs struct {
	runs []run
	of   []int // by places, the run that has it
}

// run is all places from first to last: the last one is there, the others are there no more. So nobody who goes from run to run goes over what is dropped.
type run struct {
	first, last int
}

// RunsOf makes the places ahead of end, which are all there.
func RunsOf(end int) Runs {
	r := Runs{runs: make([]run, end+1), of: make([]int, end+1)}
	for place := range r.of {
		r.runs[place] = run{first: place, last: place}
		r.of[place] = place
	}
	return r
}

// From tells the first place from this one on that is there; the end, if there is no other.
func (r *Runs) From(place int) int {
	return r.runs[r.of[place]].last
}

// Has tells whether this place is there.
func (r *Runs) Has(place int) bool {
	return r.From(place) == place
}

// Drop takes out a place that is there, ahead of the end: its run and the one behind it become one.
func (r *Runs) Drop(place int) {
	lost, kept := r.of[place], r.of[place+1]
	whole := run{first: r.runs[lost].first, last: r.runs[kept].last}
	// The shorter one is lost: each time a place goes to another run, its run is twice as long at least, so none does often.
	if place-whole.first >= whole.last-place {
		lost, kept = kept, lost
	}
	for at := r.runs[lost].first; at <= r.runs[lost].last; at++ {
		r.of[at] = kept
	}
	r.runs[kept] = whole
}

package alive

import (
	"slices"
	"testing"

	"gridiron/samples"
)

// row are the places from 0 on, ahead of end.
func row(end int) []int {
	var places []int
	for place := range end {
		places = append(places, place)
	}
	return places
}

// holds fails unless just these of the places ahead of end are told to be there.
func holds(t *testing.T, r *Runs, d *Drops, end int, there []int) {
	t.Helper()
	next, gone := end, end-len(there)
	for place := end; place >= 0; place-- {
		has := place == end || slices.Contains(there, place)
		if has {
			next = place
		} else {
			gone--
		}
		if r.Has(place) != has || r.From(place) != next {
			t.Fatalf("of %d there are %v: Has of %d: %t; From: %d, not %d", end, there, place, r.Has(place), r.From(place), next)
		}
		if count, looked := d.Ahead(place); count != gone || looked > samples.Log(place+1) {
			t.Fatalf("of %d there are %v: ahead of %d: %d were dropped, %d looked at; not %d", end, there, place, count, looked, gone)
		}
	}
}

func TestAllOrdersInWhichFewPlacesAreDropped(t *testing.T) {
	for end := range 7 {
		for _, order := range samples.Orders(row(end)) {
			r, d := RunsOf(end), DropsOf(end)
			for i, place := range order {
				holds(t, &r, &d, end, order[i:])
				r.Drop(place)
				d.Add(place)
			}
			holds(t, &r, &d, end, nil)
		}
	}
}

func TestManyPlacesAreDropped(t *testing.T) {
	for _, end := range []int{31, 32, 33, 100} {
		for name, order := range samples.Ways(row(end)) {
			t.Run(name, func(t *testing.T) {
				r, d := RunsOf(end), DropsOf(end)
				for i, place := range order {
					holds(t, &r, &d, end, order[i:])
					r.Drop(place)
					d.Add(place)
				}
			})
		}
	}
}

func TestPlacesSeldomGoToAnotherRun(t *testing.T) {
	const end = 1000
	for name, order := range samples.Ways(row(end)) {
		t.Run(name, func(t *testing.T) {
			r, times := RunsOf(end), 0
			for _, place := range order {
				before := slices.Clone(r.of)
				r.Drop(place)
				times += moved(before, r.of)
			}
			if times > end*samples.Log(end+1) {
				t.Errorf("places went to another run %d times", times)
			}
		})
	}
}

// moved tells how many of both lists' places have another run.
func moved(before, now []int) int {
	count := 0
	for place := range before {
		if before[place] != now[place] {
			count++
		}
	}
	return count
}

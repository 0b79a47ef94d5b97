package alive

import (
	"slices"
	"testing"

	"gridiron/samples"
)

// row are the places from 0 on, ahead of end.
func row(end int) []int {
	var places []int
	for place := range end {
		places = append(places, place)
	}
	return places
}

// called are names for the places ahead of end.
func called(end int) Names {
	var names []uint32
	for place := range end {
		names = append(names, samples.Name(place))
	}
	return NamesOf(names)
}

// holds fails unless just these of the places ahead of end are told to be there.
func holds(t *testing.T, n *Names, end int, there []int) {
	t.Helper()
	next, gone := end, end-len(there)
	for place := end; place >= 0; place-- {
		has := place == end || slices.Contains(there, place)
		if has {
			next = place
		} else {
			gone--
		}
		if n.Has(place) != has || n.there.Has(place) != has || n.there.From(place) != next {
			t.Fatalf("of %d there are %v: Has of %d: %t; From: %d, not %d", end, there, place, n.Has(place), n.there.From(place), next)
		}
		if count := n.dropped.Ahead(place); count != gone {
			t.Fatalf("of %d there are %v: ahead of %d: %d were dropped, not %d", end, there, place, count, gone)
		}
		tells(t, n, place, end, there)
	}
}

// tells fails unless just the names of these places are told from that place on, ahead of any other one.
func tells(t *testing.T, n *Names, from, end int, there []int) {
	t.Helper()
	var want []uint32
	for to := from; to <= end; to++ {
		if names, count := n.Between(from, to), n.Count(from, to); !slices.Equal(names, want) || count != len(want) {
			t.Fatalf("of %d there are %v: from %d on, ahead of %d: %v, and Count %d; not %v", end, there, from, to, names, count, want)
		}
		if slices.Contains(there, to) {
			want = append(want, samples.Name(to))
		}
	}
}

func TestAllOrdersInWhichFewPlacesAreDropped(t *testing.T) {
	for end := range 7 {
		for _, order := range samples.Orders(row(end)) {
			n := called(end)
			for i, place := range order {
				holds(t, &n, end, order[i:])
				n.Drop(place)
			}
			holds(t, &n, end, nil)
		}
	}
}

func TestManyPlacesAreDropped(t *testing.T) {
	for _, end := range []int{8, 9, 10, 15, 16, 17, 31, 32, 33, 60} {
		for name, order := range samples.Ways(row(end)) {
			t.Run(name, func(t *testing.T) {
				n := called(end)
				for i, place := range order {
					holds(t, &n, end, order[i:])
					n.Drop(place)
				}
				holds(t, &n, end, nil)
			})
		}
	}
}

func TestNamesAreToldInMemoryOfTheirOwn(t *testing.T) {
	n := called(5)
	samples.Spoil(n.Between(0, 5), 77)
	holds(t, &n, 5, row(5))
}

func TestPlacesSeldomGoToAnotherRun(t *testing.T) {
	const end = 1000
	for name, order := range samples.Ways(row(end)) {
		t.Run(name, func(t *testing.T) {
			r, times := RunsOf(end), 0
			for _, place := range order {
				before := slices.Clone(r.of)
				r.Drop(place)
				times += unlike(before, r.of)
			}
			if times > end*samples.Log(end+1) {
				t.Errorf("places went to another run %d times", times)
			}
		})
	}
}

func TestADropHasToDoWithFewNumbers(t *testing.T) {
	const root = 32
	for _, end := range []int{root*root - 1, root * root, root*root + 1} {
		d := DropsOf(end)
		for _, place := range samples.Shuffled(row(end), end) {
			ahead, within := slices.Clone(d.ahead), slices.Clone(d.within)
			d.Add(place)
			if others := unlike(ahead, d.ahead) + unlike(within, d.within); others > 2*(root+1) {
				t.Fatalf("of %d places: drop of %d has to do with %d numbers", end, place, others)
			}
		}
	}
}

// unlike tells at how many places both lists, which are as long, are not the same.
func unlike(before, now []int) int {
	count := 0
	for place := range before {
		if before[place] != now[place] {
			count++
		}
	}
	return count
}

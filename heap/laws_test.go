package heap_test

import (
	"slices"
	"testing"

	"gridiron/api"
	"gridiron/band"
	"gridiron/heap"
	"gridiron/item"
	"gridiron/samples"
)

func TestAllListsOfFewPoints(t *testing.T) {
	for n, side := range []int{1, 5, 4, 3, 2} {
		for _, l := range samples.FewPoints(n, side) {
			holds(t, of(t, l...), n, l, sidesAt(l))
		}
	}
}

func TestAllOrdersInWhichFewPointsAreDropped(t *testing.T) {
	for _, order := range samples.OrdersOfFewPoints() {
		goes(t, of(t, order...), order, 1)
	}
}

func TestManyPointsAreDroppedInAnyOrder(t *testing.T) {
	for i, l := range samples.MixedPoints() {
		goes(t, of(t, l...), samples.Shuffled(l, i), 1+len(l)/7)
	}
}

// P13.4

func TestHowFewAreTouchedBehindAnyDrops(t *testing.T) {
	for name, order := range samples.ManyPoints() {
		t.Run(name, func(t *testing.T) { fewTouched(t, order) })
	}
}

// fewTouched fails unless few things are touched as all of these are dropped, whatever is asked for in between.
func fewTouched(t *testing.T, order []api.Point) {
	t.Helper()
	n := len(order)
	v := of(t, order...)
	for i, p := range order {
		if left := order[i:]; i%(n/10) == 0 || len(left) < 4 {
			for _, q := range []api.Point{order[0], order[i/2], p, order[(i+n)/2], order[n-1]} {
				holds(t, v, n, left, sidesAround(q))
			}
		}
		dropped(t, v, p, true)
	}
	holds(t, v, n, nil, sidesAround(order[0]))
}

// sidesAround are sides at which p lies, below which it does, or over which.
func sidesAround(p api.Point) []sides {
	const far = 9000
	return []sides{
		{p.X, p.X, p.Y}, {p.X, p.X, greatest}, {least, p.X, p.Y}, {p.X, greatest, p.Y}, {least, greatest, p.Y}, {least, greatest, greatest},
		{p.X - far, p.X + far, p.Y}, {p.X - far, p.X + far, p.Y - far}, {p.X - far, p.X + far, greatest}, {p.X + 1, greatest, p.Y}, {least, p.X - 1, p.Y},
	}
}

// P13.5

func TestThreeSidesHaveWhatTheBoxHasFromTheLeastNumberOn(t *testing.T) {
	for _, n := range []int{1, 2, 9, 40, 200} {
		for _, unlike := range []int{1, 5, 60, 5000} {
			l := samples.Points(n, unlike)
			v := of(t, l...)
			boxes, _ := band.Build(l)
			for i, p := range samples.Shuffled(l, n) {
				if i%(1+n/5) == 0 {
					asOfBoxes(t, v, boxes, n, sidesAt(l))
				}
				if q := point(p.ID, p.X, l[i].Y); v.Drop(q) != boxes.Drop(q) || v.Drop(p) != boxes.Drop(p) {
					t.Fatalf("only one tree drops %v, or %v", q, p)
				}
			}
			asOfBoxes(t, v, boxes, n, sidesAt(l))
		}
	}
}

// asOfBoxes fails unless v tells of all sides what the other tree tells of the boxes that go down from them as far as numbers do.
func asOfBoxes(t *testing.T, v *heap.Heap, boxes *band.Band, n int, all []sides) {
	t.Helper()
	for _, s := range all {
		names, _ := boxes.Report(samples.Box(s.x1, s.x2, least, s.y))
		has(t, v, n, s, names...)
	}
}

func TestTheOrderInWhichPointsAreHandedInSaysNothing(t *testing.T) {
	for _, n := range []int{2, 3, 9, 40, 200} {
		for _, unlike := range []int{2, 30, 3000} {
			l := samples.Points(n, unlike)
			all := sidesAt(l)
			for name, order := range samples.Ways(slices.SortedFunc(slices.Values(l), item.ByY)) {
				t.Run(name, func(t *testing.T) {
					holds(t, of(t, order...), n, l, all)
				})
			}
		}
	}
}

func TestTheSamePointsLeftAreToldOfWhicheverWereDropped(t *testing.T) {
	l := samples.Points(80, 60)
	left, others := l[:20], l[20:]
	for seed := range 4 {
		v := of(t, samples.Shuffled(l, seed)...)
		for _, p := range samples.Shuffled(others, seed+9) {
			dropped(t, v, p, true)
		}
		holds(t, v, len(l), left, sidesAt(l))
		goes(t, v, left, 5)
	}
}

// R3 and R4

func TestNoListThatIsGivenIsChangedNorKept(t *testing.T) {
	given := samples.Points(60, 50)
	before := slices.Clone(given)
	v := of(t, given[:40]...)
	wrong := append(slices.Clone(given), given[0])
	heap.Build(wrong)
	if !slices.Equal(given, before) || !slices.Equal(wrong, append(slices.Clone(before), before[0])) {
		t.Error("Build changes its list, or the room behind it")
	}
	samples.Spoil(given, point(7, -1, 99))
	goes(t, v, before[:40], 3)
}

func TestNamesAreToldInMemoryOfTheirOwn(t *testing.T) {
	l := samples.Points(50, 30)
	v := of(t, l...)
	for _, s := range sidesAt(l) {
		kept, _ := v.Three(s.x1, s.x2, s.y)
		names, _ := v.Three(s.x1, s.x2, s.y)
		samples.Spoil(names, 77)
		if !slices.Equal(kept, within(l, s)) {
			t.Fatalf("two answers for %v share memory", s)
		}
		samples.Spoil(kept, 77)
	}
	holds(t, v, len(l), l, sidesAt(l))
}

func TestAskingChangesNothing(t *testing.T) {
	l := samples.Points(40, 30)
	v := of(t, l...)
	for range 3 {
		holds(t, v, len(l), l, sidesAt(l))
		dropped(t, v, point(1, 99, 99), false)
	}
	for _, s := range sidesAt(l) {
		_, touched := v.Three(s.x1, s.x2, s.y)
		_, again := v.Three(s.x1, s.x2, s.y)
		_, entered := v.Any(s.x1, s.x2, s.y)
		_, anew := v.Any(s.x1, s.x2, s.y)
		if touched != again || entered != anew {
			t.Errorf("%v: Three touches %d, and then %d; Any %d, and then %d", s, touched, again, entered, anew)
		}
	}
}

func TestTreesHaveNothingToDoWithOneAnother(t *testing.T) {
	l := samples.Points(30, 20)
	one, other := of(t, l...), of(t, l...)
	all := sidesAt(l)
	for i, p := range l {
		dropped(t, one, p, true)
		holds(t, one, len(l), l[i+1:], all)
		holds(t, other, len(l), l, all)
	}
}

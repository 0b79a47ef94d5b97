package corner_test

import (
	"slices"
	"testing"

	"gridiron/api"
	"gridiron/cascade"
	"gridiron/corner"
	"gridiron/item"
	"gridiron/samples"
)

func TestAllListsOfFewPoints(t *testing.T) {
	for n, side := range []int{1, 5, 4, 3, 2} {
		for _, l := range samples.FewPoints(n, side) {
			holds(t, of(t, l...), n, l, samples.PlacesAt(l))
		}
	}
}

func TestAllOrdersInWhichFewPointsAreDropped(t *testing.T) {
	for _, order := range samples.OrdersOfFewPoints() {
		goes(t, of(t, order...), order, 1)
	}
}

func TestManyPointsAreDroppedInAnyOrder(t *testing.T) {
	for i, l := range samples.MixedPoints() {
		goes(t, of(t, l...), samples.Shuffled(l, i), 1+len(l)/7)
	}
}

// P12.3

func TestHowFewAreTouchedBehindAnyDrops(t *testing.T) {
	for name, order := range samples.ManyPoints() {
		t.Run(name, func(t *testing.T) { fewTouched(t, order) })
	}
}

// fewTouched fails unless few things are touched as all of these are dropped, wherever it is asked for in between.
func fewTouched(t *testing.T, order []api.Point) {
	t.Helper()
	n := len(order)
	v := of(t, order...)
	for i, p := range order {
		if left := order[i:]; i%(n/10) == 0 || len(left) < 4 {
			holds(t, v, n, left, []api.Point{order[0], order[i/2], p, order[(i+n)/2], order[n-1], point(0, least, least), point(0, greatest, least)})
		}
		dropped(t, v, p, true)
	}
	holds(t, v, n, nil, order[:3])
}

func TestWhatIsTouchedIsWhatLayer11TellsOfBoxes(t *testing.T) {
	l := samples.Points(100, 60)
	v := of(t, l...)
	boxes, _ := cascade.Build(l)
	for i, p := range l {
		for _, q := range samples.PlacesAt(l)[i : i+20] {
			for way, b := range []api.Box{
				samples.Box(least, q.X, least, q.Y), samples.Box(q.X, greatest, least, q.Y),
				samples.Box(least, q.X, q.Y, greatest), samples.Box(q.X, greatest, q.Y, greatest),
			} {
				_, reported := v.Report(q.X, q.Y, uint8(way))
				_, counted := v.Count(q.X, q.Y, uint8(way))
				_, report := boxes.Report(b)
				_, count := boxes.Count(b)
				if reported != report || counted != count {
					t.Fatalf("%v, way %d: Report touches %d, Count %d; of the box they touch %d and %d", q, way, reported, counted, report, count)
				}
			}
		}
		if v.Drop(p) != boxes.Drop(p) {
			t.Fatalf("only one tree drops %v", p)
		}
	}
}

// P12.4

func TestFourCornersThatHaveNoNumberInCommonHaveEachPointOnce(t *testing.T) {
	for _, unlike := range []int{1, 4, 60, 5000} {
		l := samples.Points(60, unlike)
		v := of(t, l...)
		for i, p := range l {
			all := those(l[i:], func(api.Point) bool { return true })
			for _, q := range append(samples.PlacesAt(l), p, point(0, least+1, greatest), point(0, greatest, least+1)) {
				// Left of the least number, and below it, is no place.
				x, y := max(q.X, least+1), max(q.Y, least+1)
				lowerLeft, _ := v.Report(x-1, y-1, downDown)
				lowerRight, _ := v.Report(x, y-1, upDown)
				upperLeft, _ := v.Report(x-1, y, downUp)
				upperRight, _ := v.Report(x, y, upUp)
				names := slices.Sorted(slices.Values(slices.Concat(lowerLeft, lowerRight, upperLeft, upperRight)))
				if !slices.Equal(names, all) {
					t.Fatalf("around %d %d: %v, not %v", x, y, names, all)
				}
			}
			dropped(t, v, p, true)
		}
	}
}

func TestOverGoesOnAndNeverRound(t *testing.T) {
	for _, n := range []int{1, 2, 9, 40} {
		for _, unlike := range []int{1, 3, 12, 5000} {
			l := samples.Points(n, unlike)
			v := of(t, l...)
			for i, p := range samples.Shuffled(l, n) {
				if i%(1+n/4) == 0 {
					overGoesOn(t, v, samples.Shuffled(l, n)[i:])
				}
				dropped(t, v, p, true)
			}
		}
	}
}

// overGoesOn fails unless of the points of v, which are those of l, what the chapter says follows.
func overGoesOn(t *testing.T, v *corner.Corner, l []api.Point) {
	t.Helper()
	over, under := map[uint32][]uint32{}, map[uint32][]uint32{}
	for _, p := range l {
		over[p.ID], _ = v.Over(p)
		under[p.ID], _ = v.Under(p)
	}
	for name, above := range over {
		if slices.Contains(above, name) || slices.Contains(under[name], name) {
			t.Fatalf("%d is over itself", name)
		}
		onTop := len(above) == 0
		for _, other := range above {
			for _, beyond := range over[other] {
				if !slices.Contains(above, beyond) {
					t.Fatalf("%d is over %d, which is over %d, but not over that", beyond, other, name)
				}
			}
			onTop = onTop || len(over[other]) == 0
		}
		if !onTop {
			t.Fatalf("of %v, which are over %d, there is none over which nothing is", above, name)
		}
		for other := range over {
			if slices.Contains(above, other) != slices.Contains(under[other], name) {
				t.Fatalf("over %d: %v; under %d: %v", name, above, other, under[other])
			}
		}
	}
}

func TestWithCoordinatesTheOtherWayRoundOrExchanged(t *testing.T) {
	// The other way round a number is the one that is as far from the greatest as it was from the least.
	for name, turned := range map[string]struct {
		point func(p api.Point) api.Point
		ways  [4]uint8
	}{
		"X the other way round": {func(p api.Point) api.Point { return point(p.ID, ^p.X, p.Y) }, [4]uint8{upDown, downDown, upUp, downUp}},
		"Y the other way round": {func(p api.Point) api.Point { return point(p.ID, p.X, ^p.Y) }, [4]uint8{downUp, upUp, downDown, upDown}},
		"exchanged":             {func(p api.Point) api.Point { return point(p.ID, p.Y, p.X) }, [4]uint8{downDown, downUp, upDown, upUp}},
	} {
		t.Run(name, func(t *testing.T) {
			for _, unlike := range []int{1, 5, 60, 5000} {
				l := samples.Points(60, unlike)
				v := of(t, l...)
				var m []api.Point
				for _, p := range l {
					m = append(m, turned.point(p))
				}
				other := of(t, m...)
				for i, p := range l {
					for _, q := range append(samples.PlacesAt(l), p) {
						r := turned.point(q)
						for way, turnedWay := range turned.ways {
							names, _ := v.Report(q.X, q.Y, uint8(way))
							has(t, other, len(l), r.X, r.Y, turnedWay, names...)
						}
					}
					dropped(t, v, p, true)
					dropped(t, other, m[i], true)
				}
			}
		})
	}
}

func TestTheOrderInWhichPointsAreHandedInSaysNothing(t *testing.T) {
	for _, n := range []int{2, 3, 9, 40, 200} {
		for _, unlike := range []int{2, 30, 3000} {
			l := samples.Points(n, unlike)
			for name, order := range samples.Ways(slices.SortedFunc(slices.Values(l), item.ByX)) {
				t.Run(name, func(t *testing.T) {
					holds(t, of(t, order...), n, l, samples.PlacesAt(l))
				})
			}
		}
	}
}

// R3 and R4

func TestNoListThatIsGivenIsChangedNorKept(t *testing.T) {
	given := samples.Points(60, 50)
	before := slices.Clone(given)
	v := of(t, given[:40]...)
	if !slices.Equal(given, before) {
		t.Error("Build changes its list, or the room behind it")
	}
	samples.Spoil(given, point(7, -1, 99))
	goes(t, v, before[:40], 3)
}

func TestNamesAreToldInMemoryOfTheirOwn(t *testing.T) {
	l := samples.Points(50, 30)
	v := of(t, l...)
	for _, p := range append(samples.PlacesAt(l), l...) {
		for _, ask := range []func() ([]uint32, int){
			func() ([]uint32, int) { return v.Report(p.X, p.Y, upUp) },
			func() ([]uint32, int) { return v.Over(p) },
			func() ([]uint32, int) { return v.Under(p) },
		} {
			kept, _ := ask()
			before := slices.Clone(kept)
			names, _ := ask()
			samples.Spoil(names, 77)
			if !slices.Equal(kept, before) {
				t.Fatalf("two answers for %v share memory", p)
			}
			samples.Spoil(kept, 77)
		}
	}
	holds(t, v, len(l), l, samples.PlacesAt(l))
}

func TestAskingChangesNothing(t *testing.T) {
	l := samples.Points(40, 30)
	v := of(t, l...)
	for range 3 {
		holds(t, v, len(l), l, samples.PlacesAt(l))
		dropped(t, v, point(1, 99, 99), false)
	}
	for _, p := range l {
		_, over := v.Over(p)
		_, under := v.Under(p)
		_, again := v.Over(p)
		_, other := v.Under(p)
		if over != again || under != other {
			t.Errorf("%v: Over touches %d, and then %d; Under %d, and then %d", p, over, again, under, other)
		}
	}
}

func TestTreesHaveNothingToDoWithOneAnother(t *testing.T) {
	l := samples.Points(30, 20)
	one, other := of(t, l...), of(t, l...)
	for i, p := range l {
		dropped(t, one, p, true)
		holds(t, one, len(l), l[i+1:], l)
		holds(t, other, len(l), l, l)
	}
}

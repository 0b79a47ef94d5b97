package low_test

import (
	"slices"
	"testing"

	"gridiron/api"
	"gridiron/item"
	"gridiron/low"
	"gridiron/samples"
)

func TestAllListsOfFewPoints(t *testing.T) {
	for n, side := range []int{1, 5, 4, 3, 2} {
		for _, l := range samples.FewPoints(n, side) {
			holds(t, of(t, l...), n, l, partsAt(l))
		}
	}
}

func TestAllOrdersInWhichFewPointsAreDropped(t *testing.T) {
	for _, order := range samples.OrdersOfFewPoints() {
		goes(t, of(t, order...), order, 1)
	}
}

func TestManyPointsAreDroppedInAnyOrder(t *testing.T) {
	for i, l := range samples.MixedPoints() {
		goes(t, of(t, l...), samples.Shuffled(l, i), 1+len(l)/7)
	}
}

// P14.3

func TestHowFewAreTouchedBehindAnyDrops(t *testing.T) {
	for name, order := range samples.ManyPoints() {
		t.Run(name, func(t *testing.T) { fewTouched(t, order) })
	}
}

// fewTouched fails unless few things are touched as all of these are dropped, whatever is asked for in between.
func fewTouched(t *testing.T, order []api.Point) {
	t.Helper()
	n := len(order)
	v := of(t, order...)
	for i, p := range order {
		if left := order[i:]; i%(n/10) == 0 || len(left) < 4 {
			for _, q := range []api.Point{order[0], p, order[(i+n)/2]} {
				fewAround(t, v, n, left, q)
			}
		}
		dropped(t, v, p, true)
	}
	fewAround(t, v, n, nil, order[0])
}

// fewAround fails unless few things are touched for parts with p, and beside it, of a tree that was built of n points, in which those of l are there.
func fewAround(t *testing.T, v *low.Low, n int, l []api.Point, p api.Point) {
	t.Helper()
	const far = 9000
	for _, r := range []part{{p.X, p.X}, {least, p.X}, {p.X, greatest}, {p.X - far, p.X + far}, {p.X + 1, greatest}, {least, p.X - 1}} {
		want := within(l, r)
		has(t, v, n, r, want, 0, 1, 2, 30, len(want), greatest)
	}
}

// P14.4

func TestLowestIsTheFirstOfLows(t *testing.T) {
	lawsOfParts(t, func(v *low.Low, r part) {
		lows, _ := v.Lows(r.x1, r.x2, 3)
		if p, found, _ := v.Lowest(r.x1, r.x2); found != (len(lows) > 0) || found && p != lows[0] {
			t.Errorf("Lowest of %v: %v, %t; Lows: %v", r, p, found, lows)
		}
	})
}

func TestLowsOfFewerAreTheBeginOfLowsOfMore(t *testing.T) {
	lawsOfParts(t, func(v *low.Low, r part) {
		all, _ := v.Lows(r.x1, r.x2, greatest)
		for k := range len(all) + 2 {
			if lows, _ := v.Lows(r.x1, r.x2, k); !slices.Equal(lows, all[:min(k, len(all))]) {
				t.Errorf("the %d lowest of %v: %v; all: %v", k, r, lows, all)
			}
		}
	})
}

func TestTheLowestOfTwoPartsIsTheLowerOneOfBothTheirLowest(t *testing.T) {
	lawsOfParts(t, func(v *low.Low, r part) {
		if r.x1 >= r.x2 {
			return
		}
		p, found, _ := v.Lowest(r.x1, r.x2)
		for _, x := range []int64{r.x1, r.x1/2 + r.x2/2, r.x2 - 1} {
			left, onLeft, _ := v.Lowest(r.x1, x)
			right, onRight, _ := v.Lowest(x+1, r.x2)
			lower := left
			if !onLeft || onRight && item.ByY(right, left) < 0 {
				lower = right
			}
			if p != lower || found != (onLeft || onRight) {
				t.Errorf("Lowest of %v: %v; up to %d: %v, past that: %v", r, p, x, left, right)
			}
		}
	})
}

// lawsOfParts hands parts of some trees to law, as their points are dropped.
func lawsOfParts(t *testing.T, law func(v *low.Low, r part)) {
	t.Helper()
	for _, n := range []int{1, 2, 9, 40} {
		for _, unlike := range []int{1, 5, 60, 5000} {
			l := samples.Points(n, unlike)
			v := of(t, l...)
			for i, p := range samples.Shuffled(l, n) {
				if i%(1+n/4) == 0 {
					for _, r := range partsAt(l) {
						law(v, r)
					}
				}
				dropped(t, v, p, true)
			}
		}
	}
}

func TestTheOrderInWhichPointsAreHandedInSaysNothing(t *testing.T) {
	for _, n := range []int{2, 3, 9, 40, 200} {
		for _, unlike := range []int{2, 30, 3000} {
			l := samples.Points(n, unlike)
			all := partsAt(l)
			for name, order := range samples.Ways(slices.SortedFunc(slices.Values(l), item.ByY)) {
				t.Run(name, func(t *testing.T) {
					holds(t, of(t, order...), n, l, all)
				})
			}
		}
	}
}

func TestTheSamePointsLeftAreToldOfWhicheverWereDropped(t *testing.T) {
	l := samples.Points(80, 60)
	left, others := l[:20], l[20:]
	for seed := range 4 {
		v := of(t, samples.Shuffled(l, seed)...)
		for _, p := range samples.Shuffled(others, seed+9) {
			dropped(t, v, p, true)
		}
		holds(t, v, len(l), left, partsAt(l))
		goes(t, v, left, 5)
	}
}

// R3 and R4

func TestNoListThatIsGivenIsChangedNorKept(t *testing.T) {
	given := samples.Points(60, 50)
	before := slices.Clone(given)
	v := of(t, given[:40]...)
	wrong := append(slices.Clone(given), given[0])
	low.Build(wrong)
	if !slices.Equal(given, before) || !slices.Equal(wrong, append(slices.Clone(before), before[0])) {
		t.Error("Build changes its list, or the room behind it")
	}
	samples.Spoil(given, point(7, -1, 99))
	goes(t, v, before[:40], 3)
}

func TestPointsAreToldInMemoryOfTheirOwn(t *testing.T) {
	l := samples.Points(50, 30)
	v := of(t, l...)
	for _, r := range partsAt(l) {
		for _, k := range []int{3, len(l)} {
			kept, _ := v.Lows(r.x1, r.x2, k)
			lows, _ := v.Lows(r.x1, r.x2, k)
			samples.Spoil(lows, point(77, 77, 77))
			if want := within(l, r); !slices.Equal(kept, want[:min(k, len(want))]) {
				t.Fatalf("two answers for %v share memory", r)
			}
			samples.Spoil(kept, point(77, 77, 77))
		}
	}
	holds(t, v, len(l), l, partsAt(l))
}

func TestAskingChangesNothing(t *testing.T) {
	l := samples.Points(40, 30)
	v := of(t, l...)
	for range 3 {
		holds(t, v, len(l), l, partsAt(l))
		dropped(t, v, point(1, 99, 99), false)
	}
	for _, r := range partsAt(l) {
		_, _, looked := v.Lowest(r.x1, r.x2)
		_, _, anew := v.Lowest(r.x1, r.x2)
		_, touched := v.Lows(r.x1, r.x2, 7)
		_, again := v.Lows(r.x1, r.x2, 7)
		if looked != anew || touched != again {
			t.Errorf("%v: Lowest touches %d, and then %d; Lows %d, and then %d", r, looked, anew, touched, again)
		}
	}
}

func TestTreesHaveNothingToDoWithOneAnother(t *testing.T) {
	l := samples.Points(30, 20)
	one, other := of(t, l...), of(t, l...)
	all := partsAt(l)
	for i, p := range l {
		dropped(t, one, p, true)
		holds(t, one, len(l), l[i+1:], all)
		holds(t, other, len(l), l, all)
	}
}

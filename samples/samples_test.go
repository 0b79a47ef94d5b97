package samples_test

import (
	"math"
	"slices"
	"testing"

	"gridiron/api"
	"gridiron/item"
	"gridiron/lists"
	"gridiron/samples"
)

func TestTurnsGoRoundBelowWhatIsHandedIn(t *testing.T) {
	next, again := samples.Turns(5), samples.Turns(5)
	times := make([]int, 7)
	for range 700 {
		turn := next(7)
		if turn != again(7) {
			t.Fatal("turns of one seed are unlike")
		}
		times[turn]++
	}
	if slices.Min(times) < 50 {
		t.Errorf("how often each number of seven comes: %v", times)
	}
}

func TestLog(t *testing.T) {
	for n, want := range []int{0, 0, 1, 2, 2, 3, 3, 3, 3, 4} {
		if got := samples.Log(n); got != want {
			t.Errorf("Log of %d: %d", n, got)
		}
	}
}

func TestOrders(t *testing.T) {
	want := [][]int{{1, 2, 3}, {1, 3, 2}, {2, 1, 3}, {2, 3, 1}, {3, 1, 2}, {3, 2, 1}}
	if got := samples.Orders([]int{1, 2, 3}); !slices.EqualFunc(got, want, slices.Equal) {
		t.Errorf("of 1 2 3: %v", got)
	}
	l := []int{4, 1, 3, 2, 5, 6, 7}
	other := samples.Shuffled(l, 1)
	if slices.Equal(l, other) {
		t.Errorf("%v is as it was", l)
	}
	slices.Sort(l)
	slices.Sort(other)
	if !slices.Equal(l, other) {
		t.Errorf("%v is %v in another order", other, l)
	}
}

func TestWays(t *testing.T) {
	for _, rising := range [][]int{{}, {1}, {1, 2, 3, 4, 5, 6, 7}, {1, 2, 3, 4, 5, 6, 7, 8}} {
		for name, way := range samples.Ways(rising) {
			sorted := slices.Sorted(slices.Values(way))
			if !slices.Equal(sorted, rising) || len(rising) > 1 && slices.IsSorted(way) != (name == "rising") {
				t.Errorf("%s: %v", name, way)
			}
		}
	}
	ways := samples.Ways([]int{1, 2, 3, 4, 5})
	if !slices.Equal(ways["from both sides"], []int{1, 5, 2, 4, 3}) || !slices.Equal(ways["to both sides"], []int{3, 4, 2, 5, 1}) {
		t.Errorf("%v", ways)
	}
}

func TestSpoilWritesOverTheRoomToo(t *testing.T) {
	whole := []int{1, 2, 3}
	samples.Spoil(whole[:1], 9)
	if !slices.Equal(whole, []int{9, 9, 9}) {
		t.Errorf("%v", whole)
	}
}

func TestSpansAreRight(t *testing.T) {
	for _, l := range [][]api.Span{samples.Spans(1000, 50), samples.ShortSpans(1000, 50, 3)} {
		if len(l) != 1000 || !lists.RightSpans(l) || slices.IsSortedFunc(l, item.ByLo) {
			t.Errorf("%d spans, of which the first are %v", len(l), l[:10])
		}
	}
	few := samples.FewSpans(2, 3)
	if len(few) != 36 {
		t.Errorf("%d lists of two spans each of which is one of six", len(few))
	}
	eachOnce(t, few, lists.RightSpans)
}

func TestPointsAreRight(t *testing.T) {
	l := samples.Points(1000, 50)
	if len(l) != 1000 || !lists.RightPoints(l) || slices.IsSortedFunc(l, item.ByX) || slices.IsSortedFunc(l, item.ByY) {
		t.Errorf("%d points, of which the first are %v", len(l), l[:10])
	}
	few := samples.FewPoints(2, 3)
	if len(few) != 81 {
		t.Errorf("%d lists of two points each of which is at one of nine places", len(few))
	}
	eachOnce(t, few, lists.RightPoints)
	orders := samples.OrdersOfFewPoints()
	if len(orders) != 64*6+3*120 {
		t.Errorf("%d orders of few points", len(orders))
	}
	eachOnce(t, orders, lists.RightPoints)
}

func TestMixedAndManyPointsAreRight(t *testing.T) {
	eachOnce(t, samples.MixedPoints(), lists.RightPoints)
	for name, l := range samples.ManyPoints() {
		if len(l) < 2000 || !lists.RightPoints(l) {
			t.Errorf("%s: %d points, of which the first are %v", name, len(l), l[:10])
		}
	}
}

// eachOnce fails unless all lists are right, and no two the same.
func eachOnce[T comparable](t *testing.T, all [][]T, right func(l []T) bool) {
	t.Helper()
	for i, l := range all {
		if !right(l) || slices.ContainsFunc(all[:i], func(other []T) bool { return slices.Equal(l, other) }) {
			t.Errorf("%v", l)
		}
	}
}

func TestHowPointsLie(t *testing.T) {
	for name, l := range samples.HowPointsLie() {
		if len(l) != 10 || !lists.RightPoints(l) {
			t.Errorf("%s: %v", name, l)
		}
	}
	for name, l := range samples.WrongPoints() {
		if lists.RightPoints(l) {
			t.Errorf("%s: %v", name, l)
		}
	}
	four := samples.FourPoints()
	for _, p := range samples.NoneOfFour() {
		if slices.Contains(four, p) {
			t.Errorf("%v", p)
		}
	}
}

func TestWhatABoxHas(t *testing.T) {
	l := samples.SixPoints()
	for name, b := range samples.BoxesOfSix() {
		var names []uint32
		for _, p := range l {
			if item.In(p, b.Box) {
				names = append(names, p.ID)
			}
		}
		slices.Sort(names)
		if !slices.Equal(b.Names, names) || !slices.Equal(samples.In(l, b.Box), names) {
			t.Errorf("%s: %v has %v, not %v", name, b.Box, names, b.Names)
		}
	}
	if names := samples.In(l, samples.Whole()); len(names) != len(l) {
		t.Errorf("all numbers: %v", names)
	}
}

func TestBoxesAtPoints(t *testing.T) {
	one := []api.Point{{X: 3, Y: 4}}
	few := samples.BoxesAt(one)
	if len(few) != 5*5*5*5 || !slices.Contains(few, samples.Box(3, 3, 4, 4)) || !slices.Contains(few, samples.Box(4, 2, 3, 5)) || !slices.Contains(few, samples.Whole()) {
		t.Errorf("at one point: %d boxes", len(few))
	}
	if edges := samples.BoxesAt([]api.Point{{X: math.MinInt64, Y: math.MaxInt64}}); len(edges) != 3*3*3*3 {
		t.Errorf("at the least and the greatest number: %d boxes", len(edges))
	}
	many := samples.BoxesAt(samples.Points(30, 60))
	having := 0
	for _, b := range many {
		if item.RightBox(b) {
			having++
		}
	}
	if len(many) > 1300 || having < 100 || having == len(many) {
		t.Errorf("at thirty points: %d boxes, of which %d are right", len(many), having)
	}
}

func TestPlacesAtPoints(t *testing.T) {
	few := samples.PlacesAt([]api.Point{samples.Point(7, 3, 4)})
	if len(few) != 5*5 || !slices.Contains(few, samples.Point(0, 3, 4)) || !slices.Contains(few, samples.Point(0, 2, 5)) || !slices.Contains(few, samples.Point(0, math.MaxInt64, math.MinInt64)) {
		t.Errorf("at one point: %v", few)
	}
	l := samples.Points(30, 60)
	many := samples.PlacesAt(l)
	there := 0
	for _, place := range many {
		if slices.ContainsFunc(l, func(p api.Point) bool { return p.X == place.X && p.Y == place.Y }) {
			there++
		}
	}
	if len(many) > 140 || there < 60 || there > 80 || !slices.Contains(many, samples.Point(0, math.MinInt64, math.MaxInt64)) {
		t.Errorf("at thirty points: %d places, at %d of which one stands", len(many), there)
	}
}

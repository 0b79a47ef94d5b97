package cascade_test

import (
	"math"
	"slices"
	"testing"

	"gridiron/api"
	"gridiron/band"
	"gridiron/cascade"
	"gridiron/frame"
	"gridiron/item"
	"gridiron/rank"
	"gridiron/samples"
)

func TestAllListsOfFewPoints(t *testing.T) {
	for n, side := range []int{1, 5, 4, 3, 2} {
		for _, l := range samples.FewPoints(n, side) {
			holds(t, of(t, l...), l, l)
		}
	}
}

func TestAllOrdersInWhichFewPointsAreDropped(t *testing.T) {
	for _, order := range samples.OrdersOfFewPoints() {
		goes(t, of(t, order...), order, 1)
	}
}

func TestManyPointsAreDroppedInAnyOrder(t *testing.T) {
	for i, l := range samples.MixedPoints() {
		goes(t, of(t, l...), samples.Shuffled(l, i), 1+len(l)/7)
	}
}

// P11.3

func TestHowFewAreTouchedBehindAnyDrops(t *testing.T) {
	for name, order := range samples.ManyPoints() {
		t.Run(name, func(t *testing.T) { fewTouched(t, order) })
	}
}

// fewTouched fails unless few things are touched as all of these are dropped, whatever is asked for in between.
func fewTouched(t *testing.T, order []api.Point) {
	t.Helper()
	n := len(order)
	v := of(t, order...)
	for i, p := range order {
		left := order[i:]
		if i%(n/10) == 0 || len(left) < 4 {
			for _, q := range []api.Point{order[0], order[i/2], p, order[(i+n)/2], order[n-1]} {
				for _, b := range append(boxesAround(q), whole) {
					has(t, v, n, b, samples.In(left, b)...)
				}
			}
		}
		dropped(t, v, p, true)
	}
	has(t, v, n, whole)
}

// boxesAround are boxes at one of whose corners p lies, or in the midst of which.
func boxesAround(p api.Point) []api.Box {
	const far = 9000
	return []api.Box{
		box(p.X, p.X, p.Y, p.Y),
		box(math.MinInt64, p.X, p.Y, math.MaxInt64),
		box(p.X, math.MaxInt64, math.MinInt64, p.Y),
		box(p.X-far, p.X+far, p.Y-far, p.Y+far),
	}
}

func TestWhatIsTouchedHasCellsNodesAndNames(t *testing.T) {
	l := samples.Points(100, 60)
	v := of(t, l...)
	leaves, _ := frame.New(len(l))
	nodes := leaves.Nodes()
	row := slices.SortedFunc(slices.Values(l), item.ByX)
	var xs, ys []int64
	for _, p := range row {
		xs, ys = append(xs, p.X), append(ys, p.Y)
	}
	slices.Sort(ys)
	for _, b := range samples.BoxesAt(l) {
		names := samples.In(l, b)
		if len(names) == 0 {
			continue
		}
		from, looked := rank.First(xs, b.X1)
		to, seen := rank.Above(xs, b.X2)
		fewest := looked + seen
		_, looked = rank.First(ys, b.Y1)
		_, seen = rank.Above(ys, b.Y2)
		fewest += looked + seen
		// Whatever is told was told of a node that was entered, as those over it were.
		canonical, _, _ := leaves.Canon(from, to)
		entered := map[int]int{}
		for _, place := range canonical {
			if len(samples.In(row[nodes[place].From:nodes[place].To], b)) == 0 {
				continue
			}
			path, _ := leaves.Path(nodes[place].From)
			for _, over := range path[:slices.Index(path, place)+1] {
				entered[over]++
			}
		}
		fewest += len(entered)
		_, reported := v.Report(b)
		_, counted := v.Count(b)
		if reported < fewest+len(names) || counted < fewest {
			t.Fatalf("of %v: Report touches %d and tells %d, Count touches %d, but %d are cells and nodes", b, reported, len(names), counted, fewest)
		}
	}
}

// P11.4

func TestItTellsWhatTheTreeOfLayer10Tells(t *testing.T) {
	for _, n := range []int{1, 2, 9, 40, 200} {
		for _, unlike := range []int{1, 5, 60, 5000} {
			l := samples.Points(n, unlike)
			v := of(t, l...)
			other, _ := band.Build(l)
			for i, p := range samples.Shuffled(l, n) {
				if i%(1+n/5) == 0 {
					same(t, v, other, samples.BoxesAt(l))
				}
				if q := point(p.ID, p.X, l[i].Y); v.Drop(q) != other.Drop(q) || v.Drop(p) != other.Drop(p) {
					t.Fatalf("only one tree drops %v, or %v", q, p)
				}
			}
			same(t, v, other, samples.BoxesAt(l))
		}
	}
}

// tree is one of points that tells what a box has.
type tree interface {
	Len() int
	Report(b api.Box) ([]uint32, int)
	Count(b api.Box) (int, int)
}

// same fails unless both trees tell the same of all boxes, whatever is touched.
func same(t *testing.T, one, other tree, boxes []api.Box) {
	t.Helper()
	if one.Len() != other.Len() {
		t.Fatalf("Len: %d and %d", one.Len(), other.Len())
	}
	for _, b := range boxes {
		names, _ := one.Report(b)
		others, _ := other.Report(b)
		count, _ := one.Count(b)
		counted, _ := other.Count(b)
		if !slices.Equal(names, others) || count != counted {
			t.Fatalf("%v: %v and %v; %d and %d", b, names, others, count, counted)
		}
	}
}

func TestHowManyABoxHasIsToldByThoseUpToItsCorners(t *testing.T) {
	for _, unlike := range []int{1, 4, 60, 5000} {
		l := samples.Points(80, unlike)
		v := of(t, l...)
		for i, p := range l {
			if i%9 == 0 {
				for _, b := range samples.BoxesAt(l) {
					byCorners(t, v, b)
				}
			}
			dropped(t, v, p, true)
		}
	}
}

// byCorners fails unless a right box has as many as are up to its greatest corner, less those left of it, and those below it, and once more those that are both.
func byCorners(t *testing.T, v *cascade.Cascade, b api.Box) {
	t.Helper()
	if !item.RightBox(b) {
		return
	}
	// Left of the least number, and below it, is none.
	upTo := func(x, y int64, none bool) int {
		if none {
			return 0
		}
		count, _ := v.Count(box(math.MinInt64, x, math.MinInt64, y))
		return count
	}
	noneLeft, noneBelow := b.X1 == math.MinInt64, b.Y1 == math.MinInt64
	all, left := upTo(b.X2, b.Y2, false), upTo(b.X1-1, b.Y2, noneLeft)
	below, both := upTo(b.X2, b.Y1-1, noneBelow), upTo(b.X1-1, b.Y1-1, noneLeft || noneBelow)
	if count, _ := v.Count(b); count != all-left-below+both {
		t.Fatalf("%v has %d; %d are up to its greatest corner, %d of them left, %d below, %d both", b, count, all, left, below, both)
	}
}

func TestABoxWithinAnotherOneHasNoMore(t *testing.T) {
	l := samples.Points(60, 40)
	v := of(t, l...)
	boxes := samples.BoxesAt(l)
	for i, p := range l {
		for _, b := range boxes[i*5 : i*5+80] {
			outer, _ := v.Report(b)
			for _, within := range []api.Box{
				box(b.X1+1, b.X2, b.Y1, b.Y2), box(b.X1, b.X2-1, b.Y1, b.Y2), box(b.X1, b.X2, b.Y1+1, b.Y2), box(b.X1, b.X2, b.Y1, b.Y2-1),
				box(b.X1/2+b.X2/2, b.X2, b.Y1, b.Y1/2+b.Y2/2), b,
			} {
				if within.X1 < b.X1 || within.X2 > b.X2 || within.Y1 < b.Y1 || within.Y2 > b.Y2 {
					continue
				}
				inner, _ := v.Report(within)
				count, _ := v.Count(within)
				if count > len(outer) || slices.ContainsFunc(inner, func(name uint32) bool { return !slices.Contains(outer, name) }) {
					t.Fatalf("%v has %v, and %v, which is within it, %v, of which it counts %d", b, outer, within, inner, count)
				}
			}
		}
		dropped(t, v, p, true)
	}
}

func TestTheOrderInWhichPointsAreHandedInSaysNothing(t *testing.T) {
	for _, n := range []int{2, 3, 9, 40, 200} {
		for _, unlike := range []int{2, 30, 3000} {
			l := samples.Points(n, unlike)
			one := of(t, l...)
			for name, order := range samples.Ways(slices.SortedFunc(slices.Values(l), item.ByX)) {
				t.Run(name, func(t *testing.T) {
					same(t, one, of(t, order...), samples.BoxesAt(l))
				})
			}
		}
	}
}

func TestTheSamePointsLeftAreToldOfWhicheverWereDropped(t *testing.T) {
	l := samples.Points(80, 60)
	left, others := l[:20], l[20:]
	for seed := range 4 {
		v := of(t, samples.Shuffled(l, seed)...)
		for _, p := range samples.Shuffled(others, seed+9) {
			dropped(t, v, p, true)
		}
		holds(t, v, l, left)
		same(t, v, of(t, left...), samples.BoxesAt(l))
	}
}

// R3 and R4

func TestNoListThatIsGivenIsChangedNorKept(t *testing.T) {
	given := samples.Points(60, 50)
	before := slices.Clone(given)
	v := of(t, given[:40]...)
	wrong := append(slices.Clone(given), given[0])
	cascade.Build(wrong)
	if !slices.Equal(given, before) || !slices.Equal(wrong, append(slices.Clone(before), before[0])) {
		t.Error("Build changes its list, or the room behind it")
	}
	samples.Spoil(given, point(7, -1, 99))
	goes(t, v, before[:40], 1)
}

func TestNamesAreToldInMemoryOfTheirOwn(t *testing.T) {
	l := samples.Points(50, 30)
	v := of(t, l...)
	for _, b := range append(samples.BoxesAt(l), whole, box(0, 0, 0, 30), box(l[0].X, l[0].X, l[0].Y, l[0].Y)) {
		kept, _ := v.Report(b)
		names, _ := v.Report(b)
		samples.Spoil(names, 77)
		if !slices.Equal(kept, samples.In(l, b)) {
			t.Fatalf("two answers for %v share memory", b)
		}
		samples.Spoil(kept, 77)
	}
	holds(t, v, l, l)
}

func TestAskingChangesNothing(t *testing.T) {
	l := samples.Points(40, 30)
	v := of(t, l...)
	for range 3 {
		holds(t, v, l, l)
		dropped(t, v, point(1, 99, 99), false)
	}
	for _, b := range samples.BoxesAt(l)[:50] {
		_, touched := v.Report(b)
		_, again := v.Report(b)
		_, counted := v.Count(b)
		_, other := v.Count(b)
		if touched != again || counted != other {
			t.Errorf("%v: Report touches %d, and then %d; Count %d, and then %d", b, touched, again, counted, other)
		}
	}
}

func TestTreesHaveNothingToDoWithOneAnother(t *testing.T) {
	l := samples.Points(30, 20)
	one, other := of(t, l...), of(t, l...)
	for i, p := range l {
		dropped(t, one, p, true)
		holds(t, one, l, l[i+1:])
		holds(t, other, l, l)
	}
}

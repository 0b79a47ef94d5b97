package band_test

import (
	"math"
	"slices"
	"testing"

	"gridiron/api"
	"gridiron/band"
	"gridiron/frame"
	"gridiron/item"
	"gridiron/rank"
	"gridiron/samples"
)

func TestAllListsOfFewPoints(t *testing.T) {
	for n, side := range []int{1, 5, 4, 3, 2} {
		for _, l := range samples.FewPoints(n, side) {
			holds(t, of(t, l...), l, l)
		}
	}
}

// P10.3 and P10.5

func TestAllOrdersInWhichFewPointsAreDropped(t *testing.T) {
	for _, l := range samples.FewPoints(3, 2) {
		for _, order := range samples.Orders(l) {
			v := of(t, l...)
			for i, p := range order {
				dropped(t, v, p, true)
				dropped(t, v, p, false)
				holds(t, v, l, order[i+1:])
			}
		}
	}
}

func TestAllOrdersInWhichFivePointsAreDropped(t *testing.T) {
	for _, l := range [][]api.Point{samples.Points(5, 1), samples.Points(5, 3), samples.Points(5, 1000)} {
		for _, order := range samples.Orders(l) {
			v := of(t, l...)
			for i, p := range order {
				dropped(t, v, p, true)
				holds(t, v, l, order[i+1:])
			}
		}
	}
}

func TestManyPointsAreDroppedInAnyOrder(t *testing.T) {
	for _, n := range []int{1, 2, 3, 7, 8, 9, 31, 64, 150} {
		for _, unlike := range []int{1, 2, 7, 50, 5000} {
			l := samples.Points(n, unlike)
			v, order := of(t, l...), samples.Shuffled(l, n+unlike)
			for i, p := range order {
				if i%(1+n/7) == 0 {
					holds(t, v, l, order[i:])
				}
				dropped(t, v, p, true)
			}
			holds(t, v, l, nil)
		}
	}
}

// P10.4

func TestInFewListsAPointStands(t *testing.T) {
	for _, n := range []int{0, 1, 2, 3, 7, 8, 9, 31, 32, 33, 200} {
		l := samples.Points(n, 30)
		v := of(t, l...)
		for _, p := range samples.Shuffled(l, n) {
			before := v.Weight()
			dropped(t, v, p, true)
			if lists := before - v.Weight(); lists < 1 || lists > samples.Log(n+1)+1 || lists > rank.Log(n+1)+1 {
				t.Fatalf("%v stood in %d lists of a tree of %d points", p, lists, n)
			}
		}
	}
}

func TestWhatIsDroppedIsNotGoneOver(t *testing.T) {
	const n = 2000
	rising := samples.Points(n, 100000)
	slices.SortFunc(rising, func(p, q api.Point) int { return int(p.Y - q.Y) })
	ways := samples.Ways(rising)
	byX := slices.Clone(rising)
	slices.SortFunc(byX, func(p, q api.Point) int { return int(p.X - q.X) })
	ways["rising by X"] = byX
	for name, order := range ways {
		t.Run(name, func(t *testing.T) {
			v := of(t, rising...)
			for i, p := range order {
				left := order[i:]
				if i%(n/10) == 0 || len(left) < 4 {
					has(t, v, n, whole, samples.In(left, whole)...)
					for _, q := range []api.Point{rising[0], rising[n/2], rising[n-1], p, order[i/2], order[n-1]} {
						for _, b := range []api.Box{box(q.X, q.X, q.Y, q.Y), box(math.MinInt64, q.X, q.Y, math.MaxInt64), box(q.X, math.MaxInt64, math.MinInt64, q.Y), box(q.X-9000, q.X+9000, q.Y-9000, q.Y+9000)} {
							has(t, v, n, b, samples.In(left, b)...)
						}
					}
				}
				dropped(t, v, p, true)
			}
			has(t, v, n, whole)
		})
	}
}

func TestWhatIsTouchedHasCellsAndNodes(t *testing.T) {
	l := samples.Points(100, 60)
	v := of(t, l...)
	leaves, _ := frame.New(len(l))
	nodes := leaves.Nodes()
	row := slices.SortedFunc(slices.Values(l), item.ByX)
	xs := risingOf(row, func(p api.Point) int64 { return p.X })
	for _, b := range samples.BoxesAt(l) {
		if !item.RightBox(b) {
			continue
		}
		from, looked := rank.First(xs, b.X1)
		to, seen := rank.Above(xs, b.X2)
		canonical, entered, _ := leaves.Canon(from, to)
		fewest := looked + seen + entered
		for _, place := range canonical {
			list := row[nodes[place].From:nodes[place].To]
			_, looked := rank.First(risingOf(list, func(p api.Point) int64 { return p.Y }), b.Y1)
			fewest += looked
		}
		names, reported := v.Report(b)
		_, counted := v.Count(b)
		if reported < fewest+len(names) || counted < fewest {
			t.Fatalf("of %v: Report touches %d and tells %d, Count touches %d, but %d are cells and nodes", b, reported, len(names), counted, fewest)
		}
	}
}

// risingOf are the points' numbers, rising.
func risingOf(l []api.Point, number func(p api.Point) int64) []int64 {
	var numbers []int64
	for _, p := range l {
		numbers = append(numbers, number(p))
	}
	slices.Sort(numbers)
	return numbers
}

func TestManyPointsAtOnePlace(t *testing.T) {
	const n = 1 << 14
	var l []api.Point
	for i := range n {
		l = append(l, point(uint32(n-i), -5, 5))
	}
	v := of(t, append(l, point(0, 5, 5))...)
	for i, p := range samples.Shuffled(l, 1) {
		has(t, v, n+1, box(-4, 9, 5, 5), 0)
		has(t, v, n+1, box(-5, 9, 6, 9))
		if count, _ := v.Count(whole); count != n-i+1 || v.Len() != count {
			t.Fatalf("behind %d drops: Count: %d, Len: %d", i, count, v.Len())
		}
		dropped(t, v, p, true)
	}
	has(t, v, n+1, whole, 0)
}

func TestManyPoints(t *testing.T) {
	const n, unlike = 30000, 1 << 30
	l := samples.Points(n, unlike)
	v := of(t, l...)
	if v.Len() != n || v.Weight() < n || v.Weight() > n*(samples.Log(n+1)+1) {
		t.Fatalf("Len: %d, Weight: %d", v.Len(), v.Weight())
	}
	some := []int64{math.MinInt64, -1, 0, unlike / 3, unlike / 2, l[0].X, l[1].Y, l[2].X - 1, l[3].Y + 1, unlike, math.MaxInt64}
	order := samples.Shuffled(l, 5)
	for i, p := range order {
		if i%7000 == 0 {
			for turn, x := range some {
				b := box(x, some[turn*3%len(some)], some[turn*7%len(some)], some[turn*5%len(some)])
				has(t, v, n, b, samples.In(order[i:], b)...)
				b = box(x, x/2+unlike/2, 0, unlike/2)
				has(t, v, n, b, samples.In(order[i:], b)...)
			}
		}
		dropped(t, v, p, true)
	}
	if v.Len() != 0 || v.Weight() != 0 {
		t.Errorf("behind all drops: Len: %d, Weight: %d", v.Len(), v.Weight())
	}
}

// P10.5

func TestBoxesBesideOneAnotherHaveWhatTheBoxAroundThemHas(t *testing.T) {
	for _, unlike := range []int{6, 100} {
		l := samples.Points(90, unlike)
		v := of(t, l...)
		for i, gone := range l {
			for _, p := range l[:9] {
				around := box(p.X-int64(i), p.X+int64(unlike), p.Y-int64(unlike), p.Y+int64(i))
				left, right := around, around
				left.X2, right.X1 = p.X, p.X+1
				together(t, v, around, left, right)
				lower, upper := around, around
				lower.Y2, upper.Y1 = p.Y-1, p.Y
				together(t, v, around, lower, upper)
			}
			dropped(t, v, gone, true)
		}
	}
}

// together fails unless both parts have what the box around them has, each point in one of them.
func together(t *testing.T, v *band.Band, around, one, other api.Box) {
	t.Helper()
	whole, _ := v.Report(around)
	some, _ := v.Report(one)
	others, _ := v.Report(other)
	both := append(some, others...)
	slices.Sort(both)
	if !slices.Equal(whole, both) {
		t.Fatalf("%v has %v; %v and %v have %v", around, whole, one, other, both)
	}
	count, _ := v.Count(around)
	counted, _ := v.Count(one)
	rest, _ := v.Count(other)
	if count != counted+rest || count != len(whole) {
		t.Fatalf("%v has %d; %v and %v have %d and %d", around, count, one, other, counted, rest)
	}
}

// turned is the same with X and Y exchanged.
func turned(p api.Point) api.Point {
	return point(p.ID, p.Y, p.X)
}

func TestWithCoordinatesExchangedTheSamePointsAreToldOf(t *testing.T) {
	for _, unlike := range []int{1, 4, 60, 5000} {
		l := samples.Points(80, unlike)
		var other []api.Point
		for _, p := range l {
			other = append(other, turned(p))
		}
		one, two := of(t, l...), of(t, other...)
		for i, p := range l {
			if i%9 == 0 {
				for _, b := range samples.BoxesAt(l) {
					names, _ := one.Report(b)
					has(t, two, len(l), box(b.Y1, b.Y2, b.X1, b.X2), names...)
				}
			}
			dropped(t, one, p, true)
			dropped(t, two, turned(p), true)
		}
	}
}

func TestTheOrderInWhichPointsAreHandedInSaysNothing(t *testing.T) {
	for _, n := range []int{2, 3, 9, 40, 200} {
		for _, unlike := range []int{2, 30, 3000} {
			l := samples.Points(n, unlike)
			one := of(t, l...)
			falling := slices.Clone(l)
			slices.Reverse(falling)
			for _, order := range [][]api.Point{samples.Shuffled(l, 1), samples.Shuffled(l, 2), falling} {
				other := of(t, order...)
				if one.Weight() != other.Weight() {
					t.Fatalf("Weight: %d and %d", one.Weight(), other.Weight())
				}
				same(t, one, other, samples.BoxesAt(l))
			}
		}
	}
}

// same fails unless both trees answer the same of all boxes, whatever was touched.
func same(t *testing.T, one, other *band.Band, boxes []api.Box) {
	t.Helper()
	if one.Len() != other.Len() {
		t.Fatalf("Len: %d and %d", one.Len(), other.Len())
	}
	for _, b := range boxes {
		names, _ := one.Report(b)
		others, _ := other.Report(b)
		count, _ := one.Count(b)
		counted, _ := other.Count(b)
		if !slices.Equal(names, others) || count != counted {
			t.Fatalf("%v: %v and %v; %d and %d", b, names, others, count, counted)
		}
	}
}

func TestTheSamePointsLeftAreToldOfWhicheverWereDropped(t *testing.T) {
	l, left := samples.Points(80, 60), samples.Points(80, 60)[:20]
	for seed := range 4 {
		v := of(t, samples.Shuffled(l, seed)...)
		for _, p := range samples.Shuffled(l[20:], seed+9) {
			dropped(t, v, p, true)
		}
		holds(t, v, l, left)
		same(t, v, of(t, left...), samples.BoxesAt(l))
	}
}

// R3 and R4

func TestNoListThatIsGivenIsChangedNorKept(t *testing.T) {
	whole := samples.Points(60, 50)
	before := slices.Clone(whole)
	v := of(t, whole[:40]...)
	wrong := append(slices.Clone(whole), whole[0])
	band.Build(wrong)
	if !slices.Equal(whole, before) || !slices.Equal(wrong, append(slices.Clone(before), before[0])) {
		t.Error("Build changes its list, or the room behind it")
	}
	for i := range whole {
		whole[i] = point(7, -1, 99)
	}
	holds(t, v, before[:40], before[:40])
	for i, p := range before[:40] {
		dropped(t, v, p, true)
		holds(t, v, before[:40], before[i+1:40])
	}
}

func TestNamesAreToldInMemoryOfTheirOwn(t *testing.T) {
	l := samples.Points(50, 30)
	v := of(t, l...)
	for x := range int64(30) {
		for _, b := range []api.Box{box(0, x, 0, 99), box(x, x, 0, 99), whole} {
			kept, _ := v.Report(b)
			names, _ := v.Report(b)
			samples.Spoil(names, 77)
			if !slices.Equal(kept, samples.In(l, b)) {
				t.Fatalf("two answers for %v share memory", b)
			}
			samples.Spoil(kept, 77)
		}
	}
	holds(t, v, l, l)
}

func TestAskingChangesNothing(t *testing.T) {
	l := samples.Points(40, 30)
	v := of(t, l...)
	for range 3 {
		holds(t, v, l, l)
		dropped(t, v, point(1, 99, 99), false)
	}
	first, touched := v.Report(whole)
	again, other := v.Report(whole)
	if !slices.Equal(first, again) || touched != other {
		t.Errorf("Report of all: %v, %d, and then %v, %d", first, touched, again, other)
	}
}

func TestTreesHaveNothingToDoWithOneAnother(t *testing.T) {
	l := samples.Points(30, 20)
	one, other := of(t, l...), of(t, l...)
	for i, p := range l {
		dropped(t, one, p, true)
		holds(t, other, l, l)
		holds(t, one, l, l[i+1:])
	}
}

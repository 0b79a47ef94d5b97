package band_test

import (
	"math"
	"slices"
	"testing"

	"gridiron/api"
	"gridiron/band"
	"gridiron/samples"
)

const (
	least    = math.MinInt64
	greatest = math.MaxInt64
)

// whole has all points.
var whole = box(least, greatest, least, greatest)

// point is the point of that name at x, y.
func point(id uint32, x, y int64) api.Point {
	return api.Point{X: x, Y: y, ID: id}
}

// box is the box from x1 to x2 and from y1 to y2; its name says nothing.
func box(x1, x2, y1, y2 int64) api.Box {
	return api.Box{X1: x1, X2: x2, Y1: y1, Y2: y2, ID: 1}
}

// of is a tree of these points.
func of(t *testing.T, l ...api.Point) *band.Band {
	t.Helper()
	v, errno := band.Build(l)
	if v == nil || errno != api.OK {
		t.Fatalf("Build of %v: %v, %d", l, v, errno)
	}
	return v
}

// namesByHand are the names of the points that b has, rising.
func namesByHand(l []api.Point, b api.Box) []uint32 {
	var names []uint32
	for _, p := range l {
		if b.X1 <= p.X && p.X <= b.X2 && b.Y1 <= p.Y && p.Y <= b.Y2 {
			names = append(names, p.ID)
		}
	}
	slices.Sort(names)
	return names
}

// over tells how many nodes are over that leaf of n: of an odd number the first half has more.
func over(n, leaf int) int {
	if n == 1 {
		return 1
	}
	first := (n + 1) / 2
	if leaf < first {
		return 1 + over(first, leaf)
	}
	return 1 + over(n-first, leaf-first)
}

// standsIn tells in how many lists p stands in a tree that was built of these points.
func standsIn(all []api.Point, p api.Point) int {
	leaf := 0
	for _, q := range all {
		if q.X < p.X || q.X == p.X && q.ID < p.ID {
			leaf++
		}
	}
	return over(len(all), leaf)
}

// has fails unless b has just the points of these names, and few things are touched for it in a tree that was built of n points.
func has(t *testing.T, v *band.Band, n int, b api.Box, want ...uint32) {
	t.Helper()
	high := samples.Log(n + 1)
	most := 4*high*high + 12*high + 12
	names, touched := v.Report(b)
	if !slices.Equal(names, want) || touched < len(want) || touched > len(want)+most {
		t.Fatalf("Report of %v: %v, %d touched; not %v, and at most %d beside them", b, names, touched, want, most)
	}
	most = 8*high*high + 12*high + 12
	count, touched := v.Count(b)
	if count != len(want) || touched < 0 || touched > most {
		t.Fatalf("Count of %v: %d, %d touched; not %d, and at most %d", b, count, touched, len(want), most)
	}
}

// dropped fails unless Drop of p answers just that.
func dropped(t *testing.T, v *band.Band, p api.Point, want bool) {
	t.Helper()
	if got := v.Drop(p); got != want {
		t.Fatalf("Drop of %v: %t", p, got)
	}
}

// sizes fails unless v, which was built of the points in all, is as long and as heavy as one in which those of l are there.
func sizes(t *testing.T, v *band.Band, all, l []api.Point) {
	t.Helper()
	weight := 0
	for _, p := range l {
		weight += standsIn(all, p)
	}
	if v.Len() != len(l) || v.Weight() != weight {
		t.Fatalf("of %v there are %v: Len: %d; Weight: %d, not %d", all, l, v.Len(), v.Weight(), weight)
	}
}

// holds fails unless v, which was built of the points in all, has those of l, whichever box it is asked for.
func holds(t *testing.T, v *band.Band, all, l []api.Point) {
	t.Helper()
	sizes(t, v, all, l)
	for _, b := range boxesAt(all) {
		has(t, v, len(all), b, namesByHand(l, b)...)
	}
}

// boxesAt are boxes whose sides lie at the points, beside them, and at the least and the greatest number, the wrong way round, too: of few points all there are, of more some of them.
func boxesAt(l []api.Point) []api.Box {
	xs, ys := numbersAt(l, func(p api.Point) int64 { return p.X }), numbersAt(l, func(p api.Point) int64 { return p.Y })
	var boxes []api.Box
	const some = 1300
	if len(xs)*len(xs)*len(ys)*len(ys) > some {
		next := samples.Turns(len(l))
		x, y := func() int64 { return xs[next(len(xs))] }, func() int64 { return ys[next(len(ys))] }
		for range some / 2 {
			boxes = append(boxes, box(x(), x(), y(), y()))
		}
		return append(boxes, box(least, greatest, y(), y()), box(x(), x(), least, greatest), whole)
	}
	for _, x1 := range xs {
		for _, x2 := range xs {
			for _, y1 := range ys {
				for _, y2 := range ys {
					boxes = append(boxes, box(x1, x2, y1, y2))
				}
			}
		}
	}
	return boxes
}

// numbersAt are the points' numbers, those beside them, and the least and the greatest number; each once, rising.
func numbersAt(l []api.Point, number func(p api.Point) int64) []int64 {
	numbers := []int64{least, greatest}
	for _, p := range l {
		at := number(p)
		numbers = append(numbers, max(at, least+1)-1, at, min(at, greatest-1)+1)
	}
	slices.Sort(numbers)
	return slices.Compact(numbers)
}

// The chapter's examples.

func TestTheChaptersExamples(t *testing.T) {
	l := []api.Point{point(1, 0, 0), point(2, 2, 5), point(3, 2, 1), point(4, 7, 3)}
	v := of(t, l...)
	has(t, v, 4, box(0, 2, 1, 5), 2, 3)
	has(t, v, 4, box(2, 2, 1, 1), 3)
	has(t, v, 4, box(3, 1, 1, 5))
	if count, _ := v.Count(box(0, 7, 0, 3)); count != 3 {
		t.Errorf("Count of X 0 to 7, Y 0 to 3: %d", count)
	}
	// Four leaves, each of which has two nodes over it.
	if v.Len() != 4 || v.Weight() != 4*3 {
		t.Errorf("Len: %d, Weight: %d", v.Len(), v.Weight())
	}
	holds(t, v, l, l)
	dropped(t, v, point(3, 2, 1), true)
	has(t, v, 4, box(0, 2, 1, 5), 2)
	holds(t, v, l, []api.Point{l[0], l[1], l[3]})
}

// P10.1

func TestBuildOfWhatIsNotRight(t *testing.T) {
	cases := map[string][]api.Point{
		"two of one name":                      {point(1, 0, 0), point(1, 0, 3)},
		"two that are the same":                {point(7, 2, 3), point(7, 2, 3)},
		"two of one name far from one another": {point(7, 0, 3), point(8, 1, 1), point(9, 2, 2), point(7, 9, 9)},
		"two of the least name":                {point(0, 0, 0), point(0, 1, 1)},
		"two of the greatest name":             {point(math.MaxUint32, 0, 0), point(1, 1, 1), point(math.MaxUint32, 0, 0)},
		"three of one name":                    {point(5, 0, 0), point(5, 1, 1), point(5, 2, 2)},
	}
	for name, l := range cases {
		t.Run(name, func(t *testing.T) {
			if v, errno := band.Build(l); v != nil || errno != api.ErrArg {
				t.Errorf("Build of %v: %v, %d", l, v, errno)
			}
		})
	}
}

func TestNoPoints(t *testing.T) {
	for _, l := range [][]api.Point{nil, {}} {
		v := of(t, l...)
		dropped(t, v, api.Point{}, false)
		dropped(t, v, point(1, 0, 4), false)
		has(t, v, 0, whole)
		has(t, v, 0, box(0, 0, 0, 0))
		holds(t, v, nil, nil)
	}
}

func TestLenAndWeightGoDownAsPointsAreDropped(t *testing.T) {
	for _, n := range []int{1, 2, 3, 4, 5, 16, 17, 60} {
		l := samples.Points(n, 40)
		v := of(t, l...)
		for i, p := range samples.Shuffled(l, 2) {
			before := v.Weight()
			dropped(t, v, point(p.ID, p.X+1, p.Y), false)
			if v.Len() != n-i || v.Weight() != before {
				t.Fatalf("behind %d drops and one that was none: Len: %d; Weight: %d, not %d", i, v.Len(), v.Weight(), before)
			}
			dropped(t, v, p, true)
			if stood := before - v.Weight(); v.Len() != n-i-1 || stood != standsIn(l, p) {
				t.Fatalf("behind %d drops: Len: %d; %v stood in %d lists, not %d", i+1, v.Len(), p, stood, standsIn(l, p))
			}
		}
		sizes(t, v, l, nil)
	}
}

func TestInWhichListsPointsStand(t *testing.T) {
	cases := []struct{ n, weight int }{
		{1, 1},
		{2, 2 + 2},
		{3, 3 + 3 + 2},
		{4, 4 * 3},
		// Of five the first half has three, of which the first one has two.
		{5, 4 + 4 + 3 + 3 + 3},
		{8, 8 * 4},
		{1024, 1024 * 11},
	}
	for _, c := range cases {
		v := of(t, samples.Points(c.n, 9)...)
		if v.Weight() != c.weight {
			t.Errorf("of %d points: Weight: %d, not %d", c.n, v.Weight(), c.weight)
		}
	}
}

// P10.2

func TestBoxesAtWhoseSidesPointsLie(t *testing.T) {
	v := of(t, point(5, -3, 2), point(9, 2, 2), point(1, 2, 8), point(7, 8, -4), point(3, 10, 20), point(2, 8, 8))
	cases := []struct {
		name string
		b    api.Box
		want []uint32
	}{
		{"at all four sides", box(-3, 10, -4, 20), []uint32{1, 2, 3, 5, 7, 9}},
		{"within all four sides", box(-2, 9, -3, 19), []uint32{1, 2, 9}},
		{"at the left side", box(-3, 1, 0, 9), []uint32{5}},
		{"at the right side", box(-2, 2, 0, 9), []uint32{1, 9}},
		{"at the lower side", box(0, 9, 2, 7), []uint32{9}},
		{"at the upper side", box(0, 9, 3, 8), []uint32{1, 2}},
		{"at corners", box(2, 8, 2, 8), []uint32{1, 2, 9}},
		{"at one corner", box(8, 10, -9, -4), []uint32{7}},
		{"one place", box(2, 2, 8, 8), []uint32{1}},
		{"one place, at which none is", box(2, 2, 7, 7), nil},
		{"one X", box(8, 8, least, greatest), []uint32{2, 7}},
		{"one Y", box(least, greatest, 8, 8), []uint32{1, 2}},
		{"beside all by X", box(3, 7, -9, 30), nil},
		{"beside all by Y", box(-9, 30, 9, 19), nil},
		{"left of all", box(-9, -4, -9, 30), nil},
		{"right of all", box(11, 12, -9, 30), nil},
		{"below all", box(-9, 30, -9, -5), nil},
		{"above all", box(-9, 30, 21, 22), nil},
		{"X1 above X2", box(3, 2, -9, 30), nil},
		{"X1 above X2, over all", box(10, -3, -4, 20), nil},
		{"Y1 above Y2", box(-9, 30, 3, 2), nil},
		{"Y1 above Y2, over all", box(-3, 10, 20, -4), nil},
		{"both above", box(10, -3, 20, -4), nil},
		{"the wrong way round by all numbers", box(greatest, least, greatest, least), nil},
		{"all numbers", whole, []uint32{1, 2, 3, 5, 7, 9}},
	}
	for _, c := range cases {
		t.Run(c.name, func(t *testing.T) {
			has(t, v, 6, c.b, c.want...)
		})
	}
}

func TestTheBoxesNameSaysNothing(t *testing.T) {
	v := of(t, point(5, 1, 1), point(6, 2, 2))
	for _, name := range []uint32{0, 5, 6, math.MaxUint32} {
		b := box(0, 1, 0, 1)
		b.ID = name
		has(t, v, 2, b, 5)
	}
}

func TestPointsInARow(t *testing.T) {
	cases := map[string]func(i int) api.Point{
		"at one place":                          func(i int) api.Point { return point(uint32(90-i), 4, -4) },
		"of one X":                              func(i int) api.Point { return point(uint32(90-i), 4, int64(i)) },
		"of one X, falling":                     func(i int) api.Point { return point(uint32(i), 4, int64(-i)) },
		"of one Y":                              func(i int) api.Point { return point(uint32(i), int64(i), 4) },
		"of one Y, falling":                     func(i int) api.Point { return point(uint32(i), int64(-i), 4) },
		"rising both ways":                      func(i int) api.Point { return point(uint32(i), int64(i), int64(i)) },
		"the one way rising, the other falling": func(i int) api.Point { return point(uint32(i), int64(i), int64(-i)) },
		"of two X, and of three Y":              func(i int) api.Point { return point(uint32(90-i), int64(i%2), int64(i%3)) },
		"at the least and the greatest numbers": func(i int) api.Point {
			return point(uint32(i), []int64{least, greatest}[i%2], []int64{greatest, least}[i/2%2])
		},
		"beside the least and the greatest":       func(i int) api.Point { return point(uint32(i), []int64{least + 1, greatest - 1}[i%2], least+int64(i)) },
		"of one X, one of them far from all":      func(i int) api.Point { return point(uint32(i), 4, []int64{0, greatest}[i/9]) },
		"of one Y, which is the greatest number":  func(i int) api.Point { return point(uint32(i), int64(i/3), greatest) },
		"of one X, which is the least number":     func(i int) api.Point { return point(uint32(i), least, int64(i/4)) },
		"at places that are one another's mirror": func(i int) api.Point { return point(uint32(i), int64(i), int64(9-i)) },
	}
	for name, at := range cases {
		t.Run(name, func(t *testing.T) {
			var l []api.Point
			for i := range 10 {
				l = append(l, at(i))
			}
			for n := range l {
				some := l[:n+1]
				v := of(t, some...)
				holds(t, v, some, some)
				for i, p := range samples.Shuffled(some, n) {
					dropped(t, v, p, true)
					if i == n/2 {
						holds(t, v, some, samples.Shuffled(some, n)[i+1:])
					}
				}
				holds(t, v, some, nil)
			}
		})
	}
}

func TestNamesRiseAsNumbersOf32BitsDo(t *testing.T) {
	names := []uint32{math.MaxUint32, 0, 1 << 31, 1<<31 - 1, 10, 9, 1, 256, 255, 1 << 16}
	var l []api.Point
	for i, name := range names {
		l = append(l, point(name, int64(i*7%10), int64(i*3%10)))
	}
	v := of(t, l...)
	slices.Sort(names)
	has(t, v, len(l), whole, names...)
	holds(t, v, l, l)
}

// P10.3

func TestDropOfWhatIsNotThere(t *testing.T) {
	l := []api.Point{point(1, 0, 0), point(2, 2, 5), point(3, 2, 1), point(4, 7, 3)}
	v := of(t, l...)
	for _, p := range []api.Point{
		point(2, 0, 0), point(1, 2, 5), point(3, 2, 5), point(2, 2, 1), point(4, 2, 1), // another one's place
		point(1, 0, 1), point(1, 1, 0), point(1, -1, 0), point(1, 0, -1), point(2, 2, 0), point(4, 7, 5), point(4, 2, 3), // one coordinate alone
		point(2, 5, 2), point(3, 1, 2), point(4, 3, 7), // X and Y exchanged
		point(1, least, 0), point(1, 0, least), point(4, greatest, 3), point(4, 7, greatest), point(4, greatest, greatest),
		point(0, 0, 0), point(5, 7, 3), point(math.MaxUint32, 2, 5), {}, // no such name
	} {
		dropped(t, v, p, false)
		holds(t, v, l, l)
	}
}

func TestDropOfOneThatWasDropped(t *testing.T) {
	l := []api.Point{point(1, 0, 4), point(2, 0, 4), point(3, 2, 4), point(4, 2, 0)}
	v := of(t, l...)
	for i, p := range l {
		dropped(t, v, p, true)
		for _, gone := range l[:i+1] {
			dropped(t, v, gone, false)
			holds(t, v, l, l[i+1:])
		}
	}
}

func TestOfPointsAtOnePlaceTheNameTellsWhichGoes(t *testing.T) {
	l := []api.Point{point(9, -1, 1), point(4, -1, 1), point(6, -1, 1), point(5, -1, 1)}
	for at := range l {
		v := of(t, l...)
		dropped(t, v, l[at], true)
		holds(t, v, l, slices.Delete(slices.Clone(l), at, at+1))
	}
}

// P10.4: of no tree.

func TestNoTree(t *testing.T) {
	copied := *of(t, point(1, 0, 4))
	for name, v := range map[string]*band.Band{"nil": nil, "one that was not built": {}, "a copy of one that was": &copied} {
		t.Run(name, func(t *testing.T) {
			if v.Len() != 0 || v.Weight() != 0 {
				t.Errorf("Len: %d, Weight: %d", v.Len(), v.Weight())
			}
			for _, b := range []api.Box{whole, {}, box(0, 0, 4, 4), box(1, 0, 1, 0)} {
				if names, touched := v.Report(b); len(names) != 0 || touched != 0 {
					t.Errorf("Report of %v: %v, %d", b, names, touched)
				}
				if count, touched := v.Count(b); count != 0 || touched != 0 {
					t.Errorf("Count of %v: %d, %d", b, count, touched)
				}
			}
			dropped(t, v, point(1, 0, 4), false)
			dropped(t, v, api.Point{}, false)
		})
	}
}

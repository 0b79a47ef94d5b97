package band_test

import (
	"math"
	"slices"
	"testing"

	"gridiron/api"
	"gridiron/band"
	"gridiron/samples"
)

var (
	point = samples.Point
	box   = samples.Box
	whole = samples.Whole()
)

// of is a tree of these points.
func of(t *testing.T, l ...api.Point) *band.Band {
	t.Helper()
	v, errno := band.Build(l)
	if v == nil || errno != api.OK {
		t.Fatalf("Build of %v: %v, %d", l, v, errno)
	}
	return v
}

// over tells how many nodes are over that leaf of n: of an odd number the first half has more.
func over(n, leaf int) int {
	if n == 1 {
		return 1
	}
	first := (n + 1) / 2
	if leaf < first {
		return 1 + over(first, leaf)
	}
	return 1 + over(n-first, leaf-first)
}

// standsIn tells in how many lists p stands in a tree that was built of these points.
func standsIn(all []api.Point, p api.Point) int {
	leaf := 0
	for _, q := range all {
		if q.X < p.X || q.X == p.X && q.ID < p.ID {
			leaf++
		}
	}
	return over(len(all), leaf)
}

// has fails unless b has just the points of these names, and few things are touched for it in a tree that was built of n points.
func has(t *testing.T, v *band.Band, n int, b api.Box, want ...uint32) {
	t.Helper()
	high := samples.Log(n + 1)
	most := 4*high*high + 12*high + 12
	names, touched := v.Report(b)
	if !slices.Equal(names, want) || touched < len(want) || touched > len(want)+most {
		t.Fatalf("Report of %v: %v, %d touched; not %v, and at most %d beside them", b, names, touched, want, most)
	}
	most = 8*high*high + 12*high + 12
	count, touched := v.Count(b)
	if count != len(want) || touched < 0 || touched > most {
		t.Fatalf("Count of %v: %d, %d touched; not %d, and at most %d", b, count, touched, len(want), most)
	}
}

// dropped fails unless Drop of p answers just that.
func dropped(t *testing.T, v *band.Band, p api.Point, want bool) {
	t.Helper()
	if got := v.Drop(p); got != want {
		t.Fatalf("Drop of %v: %t", p, got)
	}
}

// sizes fails unless v, which was built of the points in all, is as long and as heavy as one in which those of l are there.
func sizes(t *testing.T, v *band.Band, all, l []api.Point) {
	t.Helper()
	weight := 0
	for _, p := range l {
		weight += standsIn(all, p)
	}
	if v.Len() != len(l) || v.Weight() != weight {
		t.Fatalf("of %v there are %v: Len: %d; Weight: %d, not %d", all, l, v.Len(), v.Weight(), weight)
	}
}

// holds fails unless v, which was built of the points in all, has those of l, whichever box it is asked for.
func holds(t *testing.T, v *band.Band, all, l []api.Point) {
	t.Helper()
	sizes(t, v, all, l)
	for _, b := range samples.BoxesAt(all) {
		has(t, v, len(all), b, samples.In(l, b)...)
	}
}

// The chapter's examples.

func TestTheChaptersExamples(t *testing.T) {
	l := samples.FourPoints()
	v := of(t, l...)
	has(t, v, 4, box(0, 2, 1, 5), 2, 3)
	has(t, v, 4, box(2, 2, 1, 1), 3)
	has(t, v, 4, box(3, 1, 1, 5))
	if count, _ := v.Count(box(0, 7, 0, 3)); count != 3 {
		t.Errorf("Count of X 0 to 7, Y 0 to 3: %d", count)
	}
	// Four leaves, each of which has two nodes over it.
	if v.Len() != 4 || v.Weight() != 4*3 {
		t.Errorf("Len: %d, Weight: %d", v.Len(), v.Weight())
	}
	holds(t, v, l, l)
	dropped(t, v, point(3, 2, 1), true)
	has(t, v, 4, box(0, 2, 1, 5), 2)
	holds(t, v, l, []api.Point{l[0], l[1], l[3]})
}

// P10.1

func TestBuildOfWhatIsNotRight(t *testing.T) {
	for name, l := range samples.WrongPoints() {
		t.Run(name, func(t *testing.T) {
			if v, errno := band.Build(l); v != nil || errno != api.ErrArg {
				t.Errorf("Build of %v: %v, %d", l, v, errno)
			}
		})
	}
}

func TestNoPoints(t *testing.T) {
	for _, l := range [][]api.Point{nil, {}} {
		v := of(t, l...)
		dropped(t, v, api.Point{}, false)
		dropped(t, v, point(1, 0, 4), false)
		has(t, v, 0, whole)
		has(t, v, 0, box(0, 0, 0, 0))
		holds(t, v, nil, nil)
	}
}

func TestLenAndWeightGoDownAsPointsAreDropped(t *testing.T) {
	for _, n := range []int{1, 2, 3, 4, 5, 16, 17, 60} {
		l := samples.Points(n, 40)
		v := of(t, l...)
		for i, p := range samples.Shuffled(l, 2) {
			before := v.Weight()
			dropped(t, v, point(p.ID, p.X+1, p.Y), false)
			if v.Len() != n-i || v.Weight() != before {
				t.Fatalf("behind %d drops and one that was none: Len: %d; Weight: %d, not %d", i, v.Len(), v.Weight(), before)
			}
			dropped(t, v, p, true)
			if stood := before - v.Weight(); v.Len() != n-i-1 || stood != standsIn(l, p) {
				t.Fatalf("behind %d drops: Len: %d; %v stood in %d lists, not %d", i+1, v.Len(), p, stood, standsIn(l, p))
			}
		}
		sizes(t, v, l, nil)
	}
}

func TestInWhichListsPointsStand(t *testing.T) {
	cases := []struct{ n, weight int }{
		{1, 1},
		{2, 2 + 2},
		{3, 3 + 3 + 2},
		{4, 4 * 3},
		// Of five the first half has three, of which the first one has two.
		{5, 4 + 4 + 3 + 3 + 3},
		{8, 8 * 4},
		{1024, 1024 * 11},
	}
	for _, c := range cases {
		v := of(t, samples.Points(c.n, 9)...)
		if v.Weight() != c.weight {
			t.Errorf("of %d points: Weight: %d, not %d", c.n, v.Weight(), c.weight)
		}
	}
}

// P10.2

func TestBoxesAtWhoseSidesPointsLie(t *testing.T) {
	v := of(t, samples.SixPoints()...)
	for name, b := range samples.BoxesOfSix() {
		t.Run(name, func(t *testing.T) {
			has(t, v, 6, b.Box, b.Names...)
		})
	}
}

func TestTheBoxesNameSaysNothing(t *testing.T) {
	v := of(t, point(5, 1, 1), point(6, 2, 2))
	for _, name := range []uint32{0, 5, 6, math.MaxUint32} {
		b := box(0, 1, 0, 1)
		b.ID = name
		has(t, v, 2, b, 5)
	}
}

func TestHowPointsLie(t *testing.T) {
	for name, l := range samples.HowPointsLie() {
		t.Run(name, func(t *testing.T) {
			for n := range l {
				some := l[:n+1]
				v, order := of(t, some...), samples.Shuffled(some, n)
				holds(t, v, some, some)
				for i, p := range order {
					dropped(t, v, p, true)
					if i == n/2 {
						holds(t, v, some, order[i+1:])
					}
				}
				holds(t, v, some, nil)
			}
		})
	}
}

func TestNamesRiseAsNumbersOf32BitsDo(t *testing.T) {
	names := []uint32{math.MaxUint32, 0, 1 << 31, 1<<31 - 1, 10, 9, 1, 256, 255, 1 << 16}
	var l []api.Point
	for i, name := range names {
		l = append(l, point(name, int64(i*7%10), int64(i*3%10)))
	}
	v := of(t, l...)
	slices.Sort(names)
	has(t, v, len(l), whole, names...)
	holds(t, v, l, l)
}

// P10.3

func TestDropOfWhatIsNotThere(t *testing.T) {
	l := samples.FourPoints()
	v := of(t, l...)
	for _, p := range samples.NoneOfFour() {
		dropped(t, v, p, false)
		holds(t, v, l, l)
	}
}

func TestDropOfOneThatWasDropped(t *testing.T) {
	l := []api.Point{point(1, 0, 4), point(2, 0, 4), point(3, 2, 4), point(4, 2, 0)}
	v := of(t, l...)
	for i, p := range l {
		dropped(t, v, p, true)
		for _, gone := range l[:i+1] {
			dropped(t, v, gone, false)
			holds(t, v, l, l[i+1:])
		}
	}
}

func TestOfPointsAtOnePlaceTheNameTellsWhichGoes(t *testing.T) {
	l := []api.Point{point(9, -1, 1), point(4, -1, 1), point(6, -1, 1), point(5, -1, 1)}
	for at := range l {
		v := of(t, l...)
		dropped(t, v, l[at], true)
		holds(t, v, l, slices.Delete(slices.Clone(l), at, at+1))
	}
}

// P10.4: of no tree.

func TestNoTree(t *testing.T) {
	copied := *of(t, point(1, 0, 4))
	for name, v := range map[string]*band.Band{"nil": nil, "one that was not built": {}, "a copy of one that was": &copied} {
		t.Run(name, func(t *testing.T) {
			if v.Len() != 0 || v.Weight() != 0 {
				t.Errorf("Len: %d, Weight: %d", v.Len(), v.Weight())
			}
			for _, b := range []api.Box{whole, {}, box(0, 0, 4, 4), box(1, 0, 1, 0)} {
				if names, touched := v.Report(b); len(names) != 0 || touched != 0 {
					t.Errorf("Report of %v: %v, %d", b, names, touched)
				}
				if count, touched := v.Count(b); count != 0 || touched != 0 {
					t.Errorf("Count of %v: %d, %d", b, count, touched)
				}
			}
			dropped(t, v, point(1, 0, 4), false)
			dropped(t, v, api.Point{}, false)
		})
	}
}

package cascade_test

import (
	"math"
	"slices"
	"testing"

	"gridiron/api"
	"gridiron/cascade"
	"gridiron/samples"
)

var (
	point = samples.Point
	box   = samples.Box
	whole = samples.Whole()
)

// of is a tree of these points.
func of(t *testing.T, l ...api.Point) *cascade.Cascade {
	t.Helper()
	v, errno := cascade.Build(l)
	if v == nil || errno != api.OK {
		t.Fatalf("Build of %v: %v, %d", l, v, errno)
	}
	return v
}

// has fails unless b has just the points of these names, and few things are touched for it in a tree that was built of n points.
func has(t *testing.T, v *cascade.Cascade, n int, b api.Box, want ...uint32) {
	t.Helper()
	most := 8*samples.Log(n+1) + 8
	names, touched := v.Report(b)
	if beside := touched - len(want); !slices.Equal(names, want) || beside < 0 || beside > most {
		t.Fatalf("Report of %v: %v, and %d touched; not %v, and at most %d beside them", b, names, touched, want, most)
	}
	count, touched := v.Count(b)
	if count != len(want) || touched < 0 || touched > most {
		t.Fatalf("Count of %v: %d, and %d touched; not %d, and at most %d", b, count, touched, len(want), most)
	}
}

// dropped fails unless Drop of p answers just that.
func dropped(t *testing.T, v *cascade.Cascade, p api.Point, want bool) {
	t.Helper()
	if got := v.Drop(p); got != want {
		t.Fatalf("Drop of %v: %t", p, got)
	}
}

// holds fails unless v, which was built of the points in all, has those of l, whichever box it is asked for.
func holds(t *testing.T, v *cascade.Cascade, all, l []api.Point) {
	t.Helper()
	if v.Len() != len(l) {
		t.Fatalf("of %v there are %v: Len: %d", all, l, v.Len())
	}
	for _, b := range samples.BoxesAt(all) {
		has(t, v, len(all), b, samples.In(l, b)...)
	}
}

// goes fails unless v, which was built of these points, has those that are there yet as all are dropped in that order: once each so many drops, and at the end.
func goes(t *testing.T, v *cascade.Cascade, order []api.Point, each int) {
	t.Helper()
	for i, p := range order {
		if i%each == 0 {
			holds(t, v, order, order[i:])
		}
		dropped(t, v, p, true)
	}
	holds(t, v, order, nil)
}

// The chapter's examples; the bridges are in knot_test.go.

func TestTheChaptersExamples(t *testing.T) {
	l := samples.FourPoints()
	v := of(t, l...)
	has(t, v, 4, box(0, 2, 1, 5), 2, 3)
	if count, _ := v.Count(box(0, 7, 0, 3)); count != 3 {
		t.Errorf("Count of X 0 to 7, Y 0 to 3: %d", count)
	}
	dropped(t, v, point(3, 2, 1), true)
	has(t, v, 4, box(0, 2, 1, 5), 2)
	holds(t, v, l, []api.Point{l[0], l[1], l[3]})
}

// P11.1

func TestBuildOfWhatIsNotRight(t *testing.T) {
	for name, l := range samples.WrongPoints() {
		t.Run(name, func(t *testing.T) {
			if v, errno := cascade.Build(l); v != nil || errno != api.ErrArg {
				t.Errorf("Build of %v: %v, %d", l, v, errno)
			}
		})
	}
}

func TestNoPoints(t *testing.T) {
	for _, l := range [][]api.Point{nil, {}} {
		v := of(t, l...)
		for _, p := range []api.Point{{}, point(1, 0, 4)} {
			dropped(t, v, p, false)
		}
		has(t, v, 0, box(0, 0, 0, 0))
		holds(t, v, nil, nil)
	}
}

func TestLenGoesDownAsPointsAreDropped(t *testing.T) {
	for _, n := range []int{1, 2, 3, 5, 16, 60} {
		l := samples.Points(n, 40)
		v := of(t, l...)
		for i, p := range samples.Shuffled(l, 2) {
			dropped(t, v, point(p.ID, p.X, p.Y-1), false)
			if v.Len() != n-i {
				t.Fatalf("of %d points, behind %d drops and one that was none: Len: %d", n, i, v.Len())
			}
			dropped(t, v, p, true)
			if v.Len() != n-i-1 {
				t.Fatalf("of %d points, behind %d drops: Len: %d", n, i+1, v.Len())
			}
		}
	}
}

// P11.2: Report and Count

func TestBoxesAtWhoseSidesPointsLie(t *testing.T) {
	v := of(t, samples.SixPoints()...)
	for name, b := range samples.BoxesOfSix() {
		t.Run(name, func(t *testing.T) {
			has(t, v, 6, b.Box, b.Names...)
		})
	}
}

func TestTheBoxesNameSaysNothing(t *testing.T) {
	v := of(t, point(5, 1, 1), point(6, 2, 2))
	for _, name := range []uint32{0, 5, 6, math.MaxUint32} {
		b := box(2, 3, 0, 2)
		b.ID = name
		has(t, v, 2, b, 6)
	}
}

func TestHowPointsLie(t *testing.T) {
	for name, l := range samples.HowPointsLie() {
		t.Run(name, func(t *testing.T) {
			for n := range l {
				goes(t, of(t, l[:n+1]...), samples.Shuffled(l[:n+1], n), 4)
			}
		})
	}
}

func TestNamesRiseAsNumbersOf32BitsDo(t *testing.T) {
	names := []uint32{1 << 31, 0, 1<<31 - 1, math.MaxUint32, 9, 10, 256, 255, 1 << 16, 1}
	for _, turn := range []int{1, 3, 7, 9} {
		var l []api.Point
		for i, name := range names {
			l = append(l, point(name, int64(i*turn%10), int64(-i)))
		}
		has(t, of(t, l...), len(l), whole, slices.Sorted(slices.Values(names))...)
		holds(t, of(t, l...), l, l)
	}
}

// P11.2: Drop

func TestDropOfWhatIsNotThere(t *testing.T) {
	l := samples.FourPoints()
	v := of(t, l...)
	for _, p := range samples.NoneOfFour() {
		dropped(t, v, p, false)
		holds(t, v, l, l)
	}
}

func TestDropOfOneThatWasDropped(t *testing.T) {
	l := []api.Point{point(4, 2, 0), point(3, 2, 4), point(2, 0, 4), point(1, 0, 4), point(5, 0, 0)}
	v := of(t, l...)
	for i, p := range l {
		dropped(t, v, p, true)
		for _, gone := range l[:i+1] {
			dropped(t, v, gone, false)
		}
		holds(t, v, l, l[i+1:])
	}
}

func TestOfPointsAtOnePlaceTheNameTellsWhichGoes(t *testing.T) {
	l := []api.Point{point(9, -1, 1), point(4, -1, 1), point(6, -1, 1), point(5, -1, 1), point(7, -1, 1)}
	for at, p := range l {
		v := of(t, l...)
		dropped(t, v, point(8, -1, 1), false)
		dropped(t, v, p, true)
		holds(t, v, l, slices.Delete(slices.Clone(l), at, at+1))
	}
}

// P11.3: of no tree.

func TestNoTree(t *testing.T) {
	copied := *of(t, point(1, 0, 4))
	for name, v := range map[string]*cascade.Cascade{"nil": nil, "one that was not built": {}, "a copy of one that was": &copied} {
		t.Run(name, func(t *testing.T) {
			for _, b := range []api.Box{whole, {}, box(0, 0, 4, 4), box(1, 0, 1, 0)} {
				names, touched := v.Report(b)
				count, counted := v.Count(b)
				if len(names) != 0 || touched != 0 || count != 0 || counted != 0 {
					t.Errorf("%v: Report: %v, %d; Count: %d, %d", b, names, touched, count, counted)
				}
			}
			dropped(t, v, point(1, 0, 4), false)
			dropped(t, v, api.Point{}, false)
			if v.Len() != 0 {
				t.Errorf("Len: %d", v.Len())
			}
		})
	}
}

package low_test

import (
	"cmp"
	"math"
	"slices"
	"testing"

	"gridiron/api"
	"gridiron/low"
	"gridiron/samples"
)

const (
	least    = math.MinInt64
	greatest = math.MaxInt64
)

var point = samples.Point

// part is the numbers of X from the one to the other.
type part struct{ x1, x2 int64 }

// of is a tree of these points.
func of(t *testing.T, l ...api.Point) *low.Low {
	t.Helper()
	v, errno := low.Build(l)
	if v == nil || errno != api.OK {
		t.Fatalf("Build of %v: %v, %d", l, v, errno)
	}
	return v
}

// has fails unless a part has just these points, the lowest first, of which so many are told as are asked for, and few things are touched for it in a tree that was built of n points.
func has(t *testing.T, v *low.Low, n int, r part, want []api.Point, ks ...int) {
	t.Helper()
	log := samples.Log(n + 1)
	most := 8*log + 8
	p, found, touched := v.Lowest(r.x1, r.x2)
	first := append(slices.Clip(want), api.Point{})[0]
	if p != first || found != (len(want) > 0) || touched < 0 || touched > most {
		t.Fatalf("Lowest of %v: %v, %t, and %d touched; not %v, and at most %d", r, p, found, touched, first, most)
	}
	for _, k := range ks {
		some := want[:max(0, min(k, len(want)))]
		lows, touched := v.Lows(r.x1, r.x2, k)
		if !slices.Equal(lows, some) || touched < len(some) || touched > most+(2*log+3)*len(some) {
			t.Fatalf("the %d lowest of %v: %v, and %d touched; not %v, and at most %d and %d for each", k, r, lows, touched, some, most, 2*log+3)
		}
	}
}

// counts are how many of so many points may be asked for: fewer than there are, as many and more; none, and fewer than that.
func counts(there int) []int {
	return []int{1, there, greatest, 2, there / 2, there - 1, there + 1, 0, -1, least}
}

// dropped fails unless Drop of p answers just that.
func dropped(t *testing.T, v *low.Low, p api.Point, want bool) {
	t.Helper()
	if got := v.Drop(p); got != want {
		t.Fatalf("Drop of %v: %t", p, got)
	}
}

// within are the points that a part has, the lowest first.
func within(l []api.Point, r part) []api.Point {
	var all []api.Point
	for _, p := range l {
		if r.x1 <= p.X && p.X <= r.x2 {
			all = append(all, p)
		}
	}
	slices.SortFunc(all, func(p, q api.Point) int {
		return cmp.Or(cmp.Compare(p.Y, q.Y), cmp.Compare(p.ID, q.ID))
	})
	return all
}

// partsAt are those of boxes at the points, without the two sides that part Y; each once.
func partsAt(l []api.Point) []part {
	var all []part
	times := map[part]int{}
	for _, b := range samples.BoxesAt(l) {
		r := part{b.X1, b.X2}
		if times[r]++; times[r] == 1 {
			all = append(all, r)
		}
	}
	return all
}

// holds fails unless v, which was built of n points, has those of l, whichever parts it is asked for, and however many of them.
func holds(t *testing.T, v *low.Low, n int, l []api.Point, all []part) {
	t.Helper()
	if v.Len() != len(l) {
		t.Fatalf("there are %v: Len: %d", l, v.Len())
	}
	for _, r := range all {
		want := within(l, r)
		has(t, v, n, r, want, counts(len(want))...)
	}
}

// goes fails unless v, which was built of these points, has those that are there yet as all are dropped in that order: once each so many drops, and at the end.
func goes(t *testing.T, v *low.Low, order []api.Point, each int) {
	t.Helper()
	all := partsAt(order)
	for i, p := range order {
		if i%each == 0 {
			holds(t, v, len(order), order[i:], all)
		}
		dropped(t, v, p, true)
	}
	holds(t, v, len(order), nil, all)
}

func TestTheChaptersExamples(t *testing.T) {
	l := samples.FourPoints()
	v := of(t, l...)
	has(t, v, 4, part{1, 9}, []api.Point{l[2], l[3], l[1]}, 1, 3)
	has(t, v, 4, part{3, 6}, nil, 1)
	has(t, v, 4, part{0, 9}, []api.Point{l[0], l[2], l[3], l[1]}, 3, 0)
	has(t, v, 4, part{2, 2}, []api.Point{l[2], l[1]}, 5)
	dropped(t, v, l[2], true)
	has(t, v, 4, part{1, 9}, []api.Point{l[3], l[1]}, 1)
	holds(t, v, 4, []api.Point{l[0], l[1], l[3]}, partsAt(l))
}

// P14.1

func TestBuildOfWhatIsNotRight(t *testing.T) {
	for name, l := range samples.WrongPoints() {
		t.Run(name, func(t *testing.T) {
			if v, errno := low.Build(l); v != nil || errno != api.ErrArg {
				t.Errorf("Build of %v: %v, %d", l, v, errno)
			}
		})
	}
}

func TestNoPoints(t *testing.T) {
	for _, l := range [][]api.Point{nil, {}} {
		v := of(t, l...)
		holds(t, v, 0, nil, partsAt([]api.Point{{}}))
		dropped(t, v, api.Point{}, false)
		dropped(t, v, point(1, 0, 4), false)
	}
}

func TestLenGoesDownAsPointsAreDropped(t *testing.T) {
	for _, n := range []int{1, 2, 5, 60} {
		l := samples.Points(n, 40)
		v := of(t, l...)
		for i, p := range samples.Shuffled(l, 2) {
			dropped(t, v, point(p.ID, p.X, p.Y+1), false)
			if v.Len() != n-i {
				t.Fatalf("of %d points, behind %d drops and one that was none: Len: %d", n, i, v.Len())
			}
			dropped(t, v, p, true)
			if v.Len() != n-i-1 {
				t.Fatalf("of %d points, behind %d drops: Len: %d", n, i+1, v.Len())
			}
		}
	}
}

func TestDropOfWhatIsNotThere(t *testing.T) {
	l := samples.FourPoints()
	v := of(t, l...)
	for _, p := range samples.NoneOfFour() {
		dropped(t, v, p, false)
		holds(t, v, 4, l, partsAt(l))
	}
}

func TestDropOfOneThatWasDropped(t *testing.T) {
	l := []api.Point{point(4, 2, 0), point(3, 2, 4), point(2, 0, 4), point(1, 0, 4), point(5, 0, 0)}
	for _, order := range samples.Orders(l) {
		v := of(t, l...)
		for i, p := range order {
			dropped(t, v, p, true)
			for _, gone := range order[:i+1] {
				dropped(t, v, gone, false)
			}
			holds(t, v, 5, order[i+1:], partsAt(l))
		}
	}
}

func TestOfPointsAtOnePlaceTheNameTellsWhichGoes(t *testing.T) {
	l := []api.Point{point(9, -1, 1), point(4, -1, 1), point(6, -1, 1), point(5, -1, 1), point(0, -1, 1)}
	for at := range l {
		v := of(t, l...)
		dropped(t, v, l[at], true)
		holds(t, v, 5, slices.Delete(slices.Clone(l), at, at+1), partsAt(l))
	}
}

func TestThePointThatIsAllZeros(t *testing.T) {
	v := of(t, api.Point{}, point(1, 1, 1))
	has(t, v, 2, part{0, 1}, []api.Point{{}, point(1, 1, 1)}, counts(2)...)
	has(t, v, 2, part{0, 0}, []api.Point{{}}, counts(1)...)
	dropped(t, v, api.Point{}, true)
	dropped(t, v, api.Point{}, false)
	has(t, v, 2, part{0, 1}, []api.Point{point(1, 1, 1)}, counts(1)...)
	dropped(t, v, point(1, 1, 1), true)
	dropped(t, v, api.Point{}, false)
	has(t, v, 2, part{0, 1}, nil, counts(0)...)
}

// P14.2

func TestPartsAtPointsAndBesideThem(t *testing.T) {
	v := of(t, samples.SixPoints()...)
	p1, p2, p3, p5, p7, p9 := point(1, 2, 8), point(2, 8, 8), point(3, 10, 20), point(5, -3, 2), point(7, 8, -4), point(9, 2, 2)
	for name, c := range map[string]struct {
		part part
		lows []api.Point
	}{
		"all numbers":                         {part{least, greatest}, []api.Point{p7, p5, p9, p1, p2, p3}},
		"at points":                           {part{-3, 10}, []api.Point{p7, p5, p9, p1, p2, p3}},
		"within them":                         {part{-2, 9}, []api.Point{p7, p9, p1, p2}},
		"at the left":                         {part{-3, 1}, []api.Point{p5}},
		"past that":                           {part{-2, 1}, nil},
		"at the right":                        {part{9, 10}, []api.Point{p3}},
		"ahead of that":                       {part{9, 9}, nil},
		"one X":                               {part{2, 2}, []api.Point{p9, p1}},
		"one X, at which none is":             {part{3, 3}, nil},
		"between points":                      {part{3, 7}, nil},
		"left of all":                         {part{least, -4}, nil},
		"right of all":                        {part{11, greatest}, nil},
		"from the least on":                   {part{least, 2}, []api.Point{p5, p9, p1}},
		"up to the greatest":                  {part{8, greatest}, []api.Point{p7, p2, p3}},
		"the wrong way round":                 {part{3, 2}, nil},
		"the wrong way round, over all":       {part{10, -3}, nil},
		"the wrong way round, beside a point": {part{9, 8}, nil},
		"from the greatest to the least":      {part{greatest, least}, nil},
		"the least X alone":                   {part{least, least}, nil},
		"the greatest X alone":                {part{greatest, greatest}, nil},
	} {
		t.Run(name, func(t *testing.T) {
			has(t, v, 6, c.part, c.lows, counts(len(c.lows))...)
		})
	}
}

func TestOfPointsOfOneYTheLesserNameIsTheLower(t *testing.T) {
	l := []api.Point{point(1<<31, 1, 5), point(1<<31-1, 2, 5), point(math.MaxUint32, 0, 5), point(0, 3, 5), point(10, 3, 5), point(9, 3, 5)}
	lows := []api.Point{l[3], l[5], l[4], l[1], l[0], l[2]}
	for _, order := range samples.Orders(l) {
		v := of(t, order...)
		has(t, v, 6, part{0, 3}, lows, counts(6)...)
		has(t, v, 6, part{1, 3}, lows[:5], counts(5)...)
		has(t, v, 6, part{0, 2}, lows[3:], counts(3)...)
	}
}

func TestPointsAtTheLastNumbers(t *testing.T) {
	l := []api.Point{point(1, least, least), point(2, greatest, least), point(3, least, greatest), point(4, greatest, greatest), point(5, 0, least), point(6, 0, greatest)}
	v := of(t, l...)
	has(t, v, 6, part{least, greatest}, []api.Point{l[0], l[1], l[4], l[2], l[3], l[5]}, counts(6)...)
	has(t, v, 6, part{least, least}, []api.Point{l[0], l[2]}, counts(2)...)
	has(t, v, 6, part{greatest, greatest}, []api.Point{l[1], l[3]}, counts(2)...)
	has(t, v, 6, part{least + 1, greatest - 1}, []api.Point{l[4], l[5]}, counts(2)...)
	has(t, v, 6, part{greatest, least}, nil, counts(6)...)
	goes(t, v, l, 1)
}

func TestHowPointsLie(t *testing.T) {
	for name, l := range samples.HowPointsLie() {
		t.Run(name, func(t *testing.T) {
			for n := range l {
				goes(t, of(t, l[:n+1]...), samples.Shuffled(l[:n+1], n), 4)
			}
		})
	}
}

// P14.3: of no tree.

func TestNoTree(t *testing.T) {
	copied := *of(t, point(1, 0, 4))
	for name, v := range map[string]*low.Low{"nil": nil, "one that was not built": {}, "a copy of one that was": &copied} {
		t.Run(name, func(t *testing.T) {
			for _, r := range partsAt([]api.Point{point(1, 0, 4)}) {
				if p, found, touched := v.Lowest(r.x1, r.x2); p != (api.Point{}) || found || touched != 0 {
					t.Errorf("Lowest of %v: %v, %t, %d", r, p, found, touched)
				}
				for _, k := range counts(1) {
					if lows, touched := v.Lows(r.x1, r.x2, k); len(lows) != 0 || touched != 0 {
						t.Errorf("the %d lowest of %v: %v, %d", k, r, lows, touched)
					}
				}
			}
			dropped(t, v, point(1, 0, 4), false)
			dropped(t, v, api.Point{}, false)
			if v.Len() != 0 {
				t.Errorf("Len: %d", v.Len())
			}
		})
	}
}

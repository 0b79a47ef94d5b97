package corner_test

import (
	"math"
	"slices"
	"testing"

	"gridiron/api"
	"gridiron/corner"
	"gridiron/samples"
)

const (
	least    = math.MinInt64
	greatest = math.MaxInt64
)

var point = samples.Point

// The four ways, by where X and Y go.
const (
	downDown = iota
	upDown
	downUp
	upUp
)

// of is a tree of these points.
func of(t *testing.T, l ...api.Point) *corner.Corner {
	t.Helper()
	v, errno := corner.Build(l)
	if v == nil || errno != api.OK {
		t.Fatalf("Build of %v: %v, %d", l, v, errno)
	}
	return v
}

// has fails unless the corner at x, y, that way, has just the points of these names, and few things are touched for it in a tree that was built of n points.
func has(t *testing.T, v *corner.Corner, n int, x, y int64, way uint8, want ...uint32) {
	t.Helper()
	most := 8*samples.Log(n+1) + 8
	names, touched := v.Report(x, y, way)
	if beside := touched - len(want); !slices.Equal(names, want) || beside < 0 || beside > most {
		t.Fatalf("Report of %d %d, way %d: %v, and %d touched; not %v, and at most %d beside them", x, y, way, names, touched, want, most)
	}
	count, touched := v.Count(x, y, way)
	if count != len(want) || touched < 0 || touched > most {
		t.Fatalf("Count of %d %d, way %d: %d, and %d touched; not %d, and at most %d", x, y, way, count, touched, len(want), most)
	}
}

// isOver fails unless just the points of these names are over p, and few things are touched for it in a tree that was built of n points.
func isOver(t *testing.T, v *corner.Corner, n int, p api.Point, want ...uint32) {
	t.Helper()
	names, touched := v.Over(p)
	if beside := touched - len(want); !slices.Equal(names, want) || beside < 0 || beside > 16*samples.Log(n+1)+16 {
		t.Fatalf("Over %v: %v, and %d touched; not %v", p, names, touched, want)
	}
}

// isUnder fails unless just the points of these names are under p, and few things are touched for it.
func isUnder(t *testing.T, v *corner.Corner, n int, p api.Point, want ...uint32) {
	t.Helper()
	names, touched := v.Under(p)
	if beside := touched - len(want); !slices.Equal(names, want) || beside < 0 || beside > 16*samples.Log(n+1)+16 {
		t.Fatalf("Under %v: %v, and %d touched; not %v", p, names, touched, want)
	}
}

// dropped fails unless Drop of p answers just that.
func dropped(t *testing.T, v *corner.Corner, p api.Point, want bool) {
	t.Helper()
	if got := v.Drop(p); got != want {
		t.Fatalf("Drop of %v: %t", p, got)
	}
}

// those are the names of the points that are so, rising.
func those(l []api.Point, so func(p api.Point) bool) []uint32 {
	var names []uint32
	for _, p := range l {
		if so(p) {
			names = append(names, p.ID)
		}
	}
	slices.Sort(names)
	return names
}

// inCorner are the names of those that the corner at x, y has, that way.
func inCorner(l []api.Point, x, y int64, way uint8) []uint32 {
	return those(l, func(p api.Point) bool {
		switch way {
		case downDown:
			return p.X <= x && p.Y <= y
		case upDown:
			return p.X >= x && p.Y <= y
		case downUp:
			return p.X <= x && p.Y >= y
		case upUp:
			return p.X >= x && p.Y >= y
		}
		return false
	})
}

// over tells whether p is over q.
func over(p, q api.Point) bool {
	return p.X >= q.X && p.Y >= q.Y && (p.X > q.X || p.Y > q.Y)
}

// holds fails unless v, which was built of n points, has those of l, wherever it is asked for.
func holds(t *testing.T, v *corner.Corner, n int, l, places []api.Point) {
	t.Helper()
	if v.Len() != len(l) {
		t.Fatalf("there are %v: Len: %d", l, v.Len())
	}
	for _, q := range places {
		for _, way := range []uint8{downDown, upDown, downUp, upUp, upUp + 1} {
			has(t, v, n, q.X, q.Y, way, inCorner(l, q.X, q.Y, way)...)
		}
		isOver(t, v, n, q, those(l, func(p api.Point) bool { return over(p, q) })...)
		isUnder(t, v, n, q, those(l, func(p api.Point) bool { return over(q, p) })...)
	}
}

// goes fails unless v, which was built of these points, has those that are there yet as all are dropped in that order: once each so many drops, and at the end.
func goes(t *testing.T, v *corner.Corner, order []api.Point, each int) {
	t.Helper()
	places := samples.PlacesAt(order)
	for i, p := range order {
		if i%each == 0 {
			holds(t, v, len(order), order[i:], places)
		}
		dropped(t, v, p, true)
	}
	holds(t, v, len(order), nil, places)
}

// The chapter's examples.

func TestTheChaptersExamples(t *testing.T) {
	l := samples.FourPoints()
	v := of(t, l...)
	has(t, v, 4, 2, 1, upUp, 2, 3, 4)
	has(t, v, 4, 2, 1, downUp, 2, 3)
	has(t, v, 4, 2, 1, 4)
	isOver(t, v, 4, l[0], 2, 3, 4)
	isOver(t, v, 4, l[2], 2, 4)
	isOver(t, v, 4, l[1])
	isUnder(t, v, 4, l[3], 1, 3)
	holds(t, v, 4, l, samples.PlacesAt(l))
}

// P12.1

func TestBuildOfWhatIsNotRight(t *testing.T) {
	for name, l := range samples.WrongPoints() {
		t.Run(name, func(t *testing.T) {
			if v, errno := corner.Build(l); v != nil || errno != api.ErrArg {
				t.Errorf("Build of %v: %v, %d", l, v, errno)
			}
		})
	}
}

func TestNoPoints(t *testing.T) {
	for _, l := range [][]api.Point{nil, {}} {
		v := of(t, l...)
		holds(t, v, 0, nil, samples.PlacesAt([]api.Point{{}}))
		dropped(t, v, api.Point{}, false)
		dropped(t, v, point(1, 0, 4), false)
	}
}

func TestLenGoesDownAsPointsAreDropped(t *testing.T) {
	l := samples.Points(60, 40)
	v := of(t, l...)
	for i, p := range samples.Shuffled(l, 2) {
		dropped(t, v, point(p.ID, p.X-1, p.Y), false)
		if v.Len() != 60-i {
			t.Fatalf("behind %d drops and one that was none: Len: %d", i, v.Len())
		}
		dropped(t, v, p, true)
		if v.Len() != 60-i-1 {
			t.Fatalf("behind %d drops: Len: %d", i+1, v.Len())
		}
	}
}

func TestDropOfWhatIsNotThere(t *testing.T) {
	l := samples.FourPoints()
	v := of(t, l...)
	for _, p := range samples.NoneOfFour() {
		dropped(t, v, p, false)
	}
	holds(t, v, 4, l, samples.PlacesAt(l))
}

func TestDropOfOneThatWasDropped(t *testing.T) {
	l := []api.Point{point(4, 2, 0), point(3, 2, 4), point(2, 0, 4), point(1, 0, 4), point(5, 0, 0)}
	v := of(t, l...)
	for i, p := range l {
		dropped(t, v, p, true)
		for _, gone := range l[:i+1] {
			dropped(t, v, gone, false)
		}
		holds(t, v, 5, l[i+1:], samples.PlacesAt(l))
	}
}

// P12.2: Report and Count

func TestCornersAtPointsAndBesideThem(t *testing.T) {
	v := of(t, point(5, -3, 2), point(9, 2, 2), point(1, 2, 8), point(7, 8, -4), point(3, 10, 20), point(2, 8, 8))
	for name, c := range map[string]struct {
		x, y  int64
		names [4][]uint32 // by the way
	}{
		"at a point":                          {2, 2, [4][]uint32{{5, 9}, {7, 9}, {1, 5, 9}, {1, 2, 3, 9}}},
		"at a point that has more to all":     {8, 8, [4][]uint32{{1, 2, 5, 7, 9}, {2, 7}, {1, 2}, {2, 3}}},
		"with the X of one":                   {8, 3, [4][]uint32{{5, 7, 9}, {7}, {1, 2}, {2, 3}}},
		"with the Y of one":                   {3, 2, [4][]uint32{{5, 9}, {7}, {1, 5, 9}, {2, 3}}},
		"with the X of one, the Y of another": {10, -4, [4][]uint32{{7}, nil, {1, 2, 3, 5, 7, 9}, {3}}},
		"beside all":                          {3, 5, [4][]uint32{{5, 9}, {7}, {1}, {2, 3}}},
		"at the lower left of all":            {-3, -4, [4][]uint32{nil, {7}, {5}, {1, 2, 3, 5, 7, 9}}},
		"at the upper right of all":           {10, 20, [4][]uint32{{1, 2, 3, 5, 7, 9}, {3}, {3}, {3}}},
		"past all to the left":                {-4, 0, [4][]uint32{nil, {7}, nil, {1, 2, 3, 5, 9}}},
		"past all, above":                     {2, 21, [4][]uint32{{1, 5, 9}, {1, 2, 3, 7, 9}, nil, nil}},
		"at the least numbers":                {least, least, [4][]uint32{nil, nil, nil, {1, 2, 3, 5, 7, 9}}},
		"at the greatest numbers":             {greatest, greatest, [4][]uint32{{1, 2, 3, 5, 7, 9}, nil, nil, nil}},
		"at the least and the greatest":       {least, greatest, [4][]uint32{nil, {1, 2, 3, 5, 7, 9}, nil, nil}},
		"at the greatest and the least":       {greatest, least, [4][]uint32{nil, nil, {1, 2, 3, 5, 7, 9}, nil}},
	} {
		t.Run(name, func(t *testing.T) {
			for way, names := range c.names {
				has(t, v, 6, c.x, c.y, uint8(way), names...)
			}
		})
	}
}

func TestNoOtherWayHasAnything(t *testing.T) {
	v := of(t, point(1, 0, 0), point(2, least, greatest), point(3, greatest, greatest), point(4, least, least))
	for way := upUp + 1; way <= math.MaxUint8; way++ {
		for _, p := range samples.PlacesAt([]api.Point{{}}) {
			has(t, v, 4, p.X, p.Y, uint8(way))
		}
	}
}

func TestPointsAtTheLastNumbersAreInCornersThere(t *testing.T) {
	l := []api.Point{point(1, least, least), point(2, greatest, least), point(3, least, greatest), point(4, greatest, greatest)}
	v := of(t, l...)
	has(t, v, 4, least, least, downDown, 1)
	has(t, v, 4, greatest, least, upDown, 2)
	has(t, v, 4, least, greatest, downUp, 3)
	has(t, v, 4, greatest, greatest, upUp, 4)
	isOver(t, v, 4, l[0], 2, 3, 4)
	isOver(t, v, 4, l[1], 4)
	isOver(t, v, 4, l[2], 4)
	isOver(t, v, 4, l[3])
	isUnder(t, v, 4, l[0])
	isUnder(t, v, 4, l[1], 1)
	isUnder(t, v, 4, l[2], 1)
	isUnder(t, v, 4, l[3], 1, 2, 3)
	goes(t, v, l, 1)
}

func TestHowPointsLie(t *testing.T) {
	for name, l := range samples.HowPointsLie() {
		t.Run(name, func(t *testing.T) {
			for n := range l {
				goes(t, of(t, l[:n+1]...), samples.Shuffled(l[:n+1], n), 4)
			}
		})
	}
}

func TestNamesRiseAsNumbersOf32BitsDo(t *testing.T) {
	names := []uint32{1 << 31, 0, 1<<31 - 1, math.MaxUint32, 9, 10, 256, 255, 1 << 16, 1}
	rising := slices.Sorted(slices.Values(names))
	for _, turn := range []int{1, 3, 7, 9} {
		var l []api.Point
		for i, name := range names {
			l = append(l, point(name, int64(i*turn%10), int64(i/2)))
		}
		v := of(t, l...)
		has(t, v, 10, 0, 0, upUp, rising...)
		isOver(t, v, 10, point(0, 0, -1), rising...)
		isUnder(t, v, 10, point(0, 9, 5), rising...)
		holds(t, v, 10, l, samples.PlacesAt(l))
	}
}

// P12.2: Over and Under

func TestOverAndUnder(t *testing.T) {
	l := []api.Point{point(5, -3, 2), point(9, 2, 2), point(1, 2, 8), point(7, 8, -4), point(3, 10, 20), point(2, 8, 8), point(6, 2, 2), point(8, 9, 2)}
	v := of(t, l...)
	for name, c := range map[string]struct {
		p           api.Point
		over, under []uint32
	}{
		"one that is there":                    {point(2, 8, 8), []uint32{3}, []uint32{1, 5, 6, 7, 9}},
		"one that is there, as another one is": {point(9, 2, 2), []uint32{1, 2, 3, 8}, []uint32{5}},
		"at their place with another name":     {point(4, 2, 2), []uint32{1, 2, 3, 8}, []uint32{5}},
		"at one's place with another's name":   {point(3, 2, 2), []uint32{1, 2, 3, 8}, []uint32{5}},
		"one that has the greatest X and Y":    {point(3, 10, 20), nil, []uint32{1, 2, 5, 6, 7, 8, 9}},
		"one over nothing, under some":         {point(7, 8, -4), []uint32{2, 3, 8}, nil},
		"one that is not there":                {point(0, 5, 5), []uint32{2, 3}, []uint32{5, 6, 9}},
		"one that is not there, of one's X":    {point(0, 8, 5), []uint32{2, 3}, []uint32{5, 6, 7, 9}},
		"one that is not there, of some's Y":   {point(0, 8, 2), []uint32{2, 3, 8}, []uint32{5, 6, 7, 9}},
		"below all":                            {point(0, -4, -5), []uint32{1, 2, 3, 5, 6, 7, 8, 9}, nil},
		"above all":                            {point(0, 11, 21), nil, []uint32{1, 2, 3, 5, 6, 7, 8, 9}},
		"at the least numbers":                 {point(0, least, least), []uint32{1, 2, 3, 5, 6, 7, 8, 9}, nil},
		"at the greatest numbers":              {point(0, greatest, greatest), nil, []uint32{1, 2, 3, 5, 6, 7, 8, 9}},
		"at the least and the greatest":        {point(0, least, greatest), nil, nil},
		"at the greatest and the least":        {point(0, greatest, least), nil, nil},
		"at the least X and one's Y":           {point(0, least, 8), []uint32{1, 2, 3}, nil},
		"at one's X and the greatest Y":        {point(0, 2, greatest), nil, []uint32{1, 5, 6, 9}},
	} {
		t.Run(name, func(t *testing.T) {
			isOver(t, v, len(l), c.p, c.over...)
			isUnder(t, v, len(l), c.p, c.under...)
		})
	}
}

func TestTheNameOfWhatIsAskedOfSaysNothing(t *testing.T) {
	v := of(t, point(5, 1, 1), point(6, 2, 2), point(7, 3, 2), point(0, 2, 2))
	for _, name := range []uint32{0, 1, 5, 6, 7, math.MaxUint32} {
		isOver(t, v, 4, point(name, 2, 2), 7)
		isUnder(t, v, 4, point(name, 2, 2), 5)
		isOver(t, v, 4, point(name, 1, 2), 0, 6, 7)
		isUnder(t, v, 4, point(name, 3, 3), 0, 5, 6, 7)
	}
}

func TestOverAndUnderWhatWasDropped(t *testing.T) {
	l := samples.FourPoints()
	v := of(t, l...)
	dropped(t, v, l[2], true)
	isOver(t, v, 4, l[2], 2, 4)
	isUnder(t, v, 4, l[2], 1)
	isOver(t, v, 4, l[0], 2, 4)
	isUnder(t, v, 4, l[3], 1)
}

// P12.3: of no tree.

func TestNoTree(t *testing.T) {
	copied := *of(t, point(1, 0, 4))
	for name, v := range map[string]*corner.Corner{"nil": nil, "one that was not built": {}, "a copy of one that was": &copied} {
		t.Run(name, func(t *testing.T) {
			for _, p := range samples.PlacesAt([]api.Point{point(1, 0, 4)}) {
				for way := range uint8(6) {
					names, touched := v.Report(p.X, p.Y, way)
					count, counted := v.Count(p.X, p.Y, way)
					if len(names) != 0 || touched != 0 || count != 0 || counted != 0 {
						t.Errorf("%v, way %d: Report: %v, %d; Count: %d, %d", p, way, names, touched, count, counted)
					}
				}
				above, touched := v.Over(p)
				below, entered := v.Under(p)
				if len(above) != 0 || touched != 0 || len(below) != 0 || entered != 0 {
					t.Errorf("Over %v: %v, %d; Under: %v, %d", p, above, touched, below, entered)
				}
				dropped(t, v, p, false)
			}
			dropped(t, v, point(1, 0, 4), false)
			if v.Len() != 0 {
				t.Errorf("Len: %d", v.Len())
			}
		})
	}
}

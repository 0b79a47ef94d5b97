package heap_test

import (
	"math"
	"slices"
	"testing"

	"gridiron/api"
	"gridiron/heap"
	"gridiron/samples"
)

const (
	least    = math.MinInt64
	greatest = math.MaxInt64
)

var point = samples.Point

// sides are three: X goes from the one to the other, Y up to the third.
type sides struct{ x1, x2, y int64 }

// of is a tree of these points.
func of(t *testing.T, l ...api.Point) *heap.Heap {
	t.Helper()
	v, errno := heap.Build(l)
	if v == nil || errno != api.OK {
		t.Fatalf("Build of %v: %v, %d", l, v, errno)
	}
	return v
}

// has fails unless three sides have just the points of these names, and few things are touched for it in a tree that was built of n points.
func has(t *testing.T, v *heap.Heap, n int, s sides, want ...uint32) {
	t.Helper()
	most := 6*samples.Log(n+1) + 6
	names, touched := v.Three(s.x1, s.x2, s.y)
	if !slices.Equal(names, want) || touched < len(want) || touched > most+2*len(want) {
		t.Fatalf("Three of %v: %v, and %d touched; not %v, and at most %d and two for each", s, names, touched, want, most)
	}
	found, touched := v.Any(s.x1, s.x2, s.y)
	if found != (len(want) > 0) || touched < 0 || touched > most {
		t.Fatalf("Any of %v: %t, and %d touched; they have %v, and at most %d may be", s, found, touched, want, most)
	}
}

// dropped fails unless Drop of p answers just that.
func dropped(t *testing.T, v *heap.Heap, p api.Point, want bool) {
	t.Helper()
	if got := v.Drop(p); got != want {
		t.Fatalf("Drop of %v: %t", p, got)
	}
}

// within are the names of the points that three sides have, rising.
func within(l []api.Point, s sides) []uint32 {
	var names []uint32
	for _, p := range l {
		if s.x1 <= p.X && p.X <= s.x2 && p.Y <= s.y {
			names = append(names, p.ID)
		}
	}
	slices.Sort(names)
	return names
}

// sidesAt are those of boxes at the points, but for the lower one; each once.
func sidesAt(l []api.Point) []sides {
	var all []sides
	times := map[sides]int{}
	for _, b := range samples.BoxesAt(l) {
		s := sides{b.X1, b.X2, b.Y2}
		if times[s]++; times[s] == 1 {
			all = append(all, s)
		}
	}
	return all
}

// holds fails unless v, which was built of n points, has those of l, whichever sides it is asked for.
func holds(t *testing.T, v *heap.Heap, n int, l []api.Point, all []sides) {
	t.Helper()
	if v.Len() != len(l) {
		t.Fatalf("there are %v: Len: %d", l, v.Len())
	}
	for _, s := range all {
		has(t, v, n, s, within(l, s)...)
	}
}

// goes fails unless v, which was built of these points, has those that are there yet as all are dropped in that order: once each so many drops, and at the end.
func goes(t *testing.T, v *heap.Heap, order []api.Point, each int) {
	t.Helper()
	all := sidesAt(order)
	for i, p := range order {
		if i%each == 0 {
			holds(t, v, len(order), order[i:], all)
		}
		dropped(t, v, p, true)
	}
	holds(t, v, len(order), nil, all)
}

// The chapter's examples; what nodes hold is in knot_test.go.

func TestTheChaptersExamples(t *testing.T) {
	l := samples.FourPoints()
	v := of(t, l...)
	has(t, v, 4, sides{1, 9, 3}, 3, 4)
	has(t, v, 4, sides{0, 2, 0}, 1)
	has(t, v, 4, sides{3, 6, 9})
	has(t, v, 4, sides{3, 9, 2})
	has(t, v, 4, sides{3, 9, 3}, 4)
	holds(t, v, 4, l, sidesAt(l))
	dropped(t, v, point(1, 0, 0), true)
	has(t, v, 4, sides{0, 2, 0})
	holds(t, v, 4, l[1:], sidesAt(l))
}

// P13.1

func TestBuildOfWhatIsNotRight(t *testing.T) {
	for name, l := range samples.WrongPoints() {
		t.Run(name, func(t *testing.T) {
			if v, errno := heap.Build(l); v != nil || errno != api.ErrArg {
				t.Errorf("Build of %v: %v, %d", l, v, errno)
			}
		})
	}
}

func TestNoPoints(t *testing.T) {
	for _, l := range [][]api.Point{nil, {}} {
		v := of(t, l...)
		holds(t, v, 0, nil, sidesAt([]api.Point{{}}))
		dropped(t, v, api.Point{}, false)
		dropped(t, v, point(1, 0, 4), false)
	}
}

func TestLenGoesDownAsPointsAreDropped(t *testing.T) {
	for _, n := range []int{1, 2, 5, 60} {
		l := samples.Points(n, 40)
		v := of(t, l...)
		for i, p := range samples.Shuffled(l, 2) {
			dropped(t, v, point(p.ID, p.X, p.Y+1), false)
			if v.Len() != n-i {
				t.Fatalf("of %d points, behind %d drops and one that was none: Len: %d", n, i, v.Len())
			}
			dropped(t, v, p, true)
			if v.Len() != n-i-1 {
				t.Fatalf("of %d points, behind %d drops: Len: %d", n, i+1, v.Len())
			}
		}
	}
}

// P13.2

func TestSidesAtPointsAndBesideThem(t *testing.T) {
	v := of(t, samples.SixPoints()...)
	for name, c := range map[string]struct {
		sides sides
		names []uint32
	}{
		"at points":                           {sides{-3, 10, 20}, []uint32{1, 2, 3, 5, 7, 9}},
		"within them":                         {sides{-2, 9, 19}, []uint32{1, 2, 7, 9}},
		"at the left":                         {sides{-3, 1, 9}, []uint32{5}},
		"past that":                           {sides{-2, 1, 9}, nil},
		"at the right":                        {sides{9, 10, 20}, []uint32{3}},
		"ahead of that":                       {sides{9, 9, 20}, nil},
		"at the upper side":                   {sides{-3, 10, 8}, []uint32{1, 2, 5, 7, 9}},
		"below that":                          {sides{-3, 10, 7}, []uint32{5, 7, 9}},
		"up to the lowest":                    {sides{-3, 10, -4}, []uint32{7}},
		"below the lowest":                    {sides{-3, 10, -5}, nil},
		"up to the lowest, which is not had":  {sides{-3, 7, -4}, nil},
		"one X":                               {sides{2, 2, 8}, []uint32{1, 9}},
		"one X, below one of its points":      {sides{2, 2, 7}, []uint32{9}},
		"one X, below all its points":         {sides{2, 2, 1}, nil},
		"one X, at which none is":             {sides{3, 3, greatest}, nil},
		"between points":                      {sides{3, 7, greatest}, nil},
		"left of all":                         {sides{least, -4, greatest}, nil},
		"right of all":                        {sides{11, greatest, greatest}, nil},
		"all numbers":                         {sides{least, greatest, greatest}, []uint32{1, 2, 3, 5, 7, 9}},
		"all X, up to the least":              {sides{least, greatest, least}, nil},
		"up to the greatest of two":           {sides{8, greatest, greatest}, []uint32{2, 3, 7}},
		"from the least on":                   {sides{least, 2, 2}, []uint32{5, 9}},
		"the wrong way round":                 {sides{3, 2, 20}, nil},
		"the wrong way round, over all":       {sides{10, -3, 20}, nil},
		"the wrong way round, beside a point": {sides{9, 8, 20}, nil},
		"from the greatest to the least":      {sides{greatest, least, greatest}, nil},
		"the least X alone":                   {sides{least, least, greatest}, nil},
		"the greatest X alone":                {sides{greatest, greatest, greatest}, nil},
	} {
		t.Run(name, func(t *testing.T) {
			has(t, v, 6, c.sides, c.names...)
		})
	}
}

func TestPointsAtTheLastNumbers(t *testing.T) {
	l := []api.Point{point(1, least, least), point(2, greatest, least), point(3, least, greatest), point(4, greatest, greatest), point(5, 0, least), point(6, 0, greatest)}
	v := of(t, l...)
	has(t, v, 6, sides{least, greatest, least}, 1, 2, 5)
	has(t, v, 6, sides{least, greatest, greatest - 1}, 1, 2, 5)
	has(t, v, 6, sides{least, least, greatest}, 1, 3)
	has(t, v, 6, sides{greatest, greatest, greatest}, 2, 4)
	has(t, v, 6, sides{least + 1, greatest - 1, greatest}, 5, 6)
	has(t, v, 6, sides{greatest, least, greatest})
	goes(t, v, l, 1)
}

func TestHowPointsLie(t *testing.T) {
	for name, l := range samples.HowPointsLie() {
		t.Run(name, func(t *testing.T) {
			for n := range l {
				goes(t, of(t, l[:n+1]...), samples.Shuffled(l[:n+1], n), 4)
			}
		})
	}
}

func TestNamesRiseAsNumbersOf32BitsDo(t *testing.T) {
	names := []uint32{1 << 31, 0, 1<<31 - 1, math.MaxUint32, 9, 10, 256, 255, 1 << 16, 1}
	rising := slices.Sorted(slices.Values(names))
	for _, turn := range []int{1, 3, 7, 9} {
		var l []api.Point
		for i, name := range names {
			l = append(l, point(name, int64(i*turn%10), int64(i/2)))
		}
		v := of(t, l...)
		has(t, v, 10, sides{0, 9, 4}, rising...)
		goes(t, v, l, 3)
	}
}

// P13.3: Drop; what nodes hold behind it is in knot_test.go.

func TestDropOfWhatIsNotThere(t *testing.T) {
	l := samples.FourPoints()
	v := of(t, l...)
	for _, p := range samples.NoneOfFour() {
		dropped(t, v, p, false)
		holds(t, v, 4, l, sidesAt(l))
	}
}

func TestDropOfOneThatWasDropped(t *testing.T) {
	l := []api.Point{point(4, 2, 0), point(3, 2, 4), point(2, 0, 4), point(1, 0, 4), point(5, 0, 0)}
	for _, order := range samples.Orders(l) {
		v := of(t, l...)
		for i, p := range order {
			dropped(t, v, p, true)
			for _, gone := range order[:i+1] {
				dropped(t, v, gone, false)
			}
			holds(t, v, 5, order[i+1:], sidesAt(l))
		}
	}
}

func TestOfPointsAtOnePlaceTheNameTellsWhichGoes(t *testing.T) {
	l := []api.Point{point(9, -1, 1), point(4, -1, 1), point(6, -1, 1), point(5, -1, 1), point(0, -1, 1)}
	for at := range l {
		v := of(t, l...)
		dropped(t, v, l[at], true)
		holds(t, v, 5, slices.Delete(slices.Clone(l), at, at+1), sidesAt(l))
	}
}

func TestThePointThatIsAllZeros(t *testing.T) {
	v := of(t, api.Point{}, point(1, 1, 1))
	dropped(t, v, api.Point{}, true)
	dropped(t, v, api.Point{}, false)
	has(t, v, 2, sides{0, 1, 1}, 1)
	dropped(t, v, point(1, 1, 1), true)
	dropped(t, v, api.Point{}, false)
	has(t, v, 2, sides{0, 1, 1})
}

// P13.4: of no tree.

func TestNoTree(t *testing.T) {
	copied := *of(t, point(1, 0, 4))
	for name, v := range map[string]*heap.Heap{"nil": nil, "one that was not built": {}, "a copy of one that was": &copied} {
		t.Run(name, func(t *testing.T) {
			for _, s := range sidesAt([]api.Point{point(1, 0, 4)}) {
				names, touched := v.Three(s.x1, s.x2, s.y)
				found, entered := v.Any(s.x1, s.x2, s.y)
				if len(names) != 0 || touched != 0 || found || entered != 0 {
					t.Errorf("%v: Three: %v, %d; Any: %t, %d", s, names, touched, found, entered)
				}
			}
			dropped(t, v, point(1, 0, 4), false)
			dropped(t, v, api.Point{}, false)
			if v.Len() != 0 {
				t.Errorf("Len: %d", v.Len())
			}
		})
	}
}

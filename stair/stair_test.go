package stair_test

import (
	"cmp"
	"math"
	"slices"
	"testing"

	"gridiron/api"
	"gridiron/samples"
	"gridiron/stair"
)

const (
	least    = math.MinInt64
	greatest = math.MaxInt64
)

var point = samples.Point

// over tells whether p is over q.
func over(p, q api.Point) bool {
	return p.X >= q.X && p.Y >= q.Y && (p.X > q.X || p.Y > q.Y)
}

// isOver tells whether one of l is over q.
func isOver(l []api.Point, q api.Point) bool {
	return slices.ContainsFunc(l, func(p api.Point) bool { return over(p, q) })
}

// skyline is that of l, done by the chapter's words.
func skyline(l []api.Point) []api.Point {
	var list []api.Point
	for _, q := range l {
		if !isOver(l, q) {
			list = append(list, q)
		}
	}
	slices.SortFunc(list, func(p, q api.Point) int { return cmp.Or(cmp.Compare(p.X, q.X), cmp.Compare(p.ID, q.ID)) })
	return list
}

// unlike tells whether no name is twice in l.
func unlike(l []api.Point) bool {
	var names []uint32
	for _, p := range l {
		names = append(names, p.ID)
	}
	slices.Sort(names)
	return len(slices.Compact(names)) == len(l)
}

// isStair tells whether l is unlike, and its own skyline.
func isStair(l []api.Point) bool {
	return unlike(l) && slices.Equal(l, skyline(l))
}

// of fails unless the skyline of l is told as it is by hand, and tells it.
func of(t *testing.T, l ...api.Point) []api.Point {
	t.Helper()
	got, errno := stair.Of(l)
	if want := skyline(l); errno != api.OK || !slices.Equal(got, want) {
		t.Fatalf("Of %v: %v, %d; not %v", l, got, errno, want)
	}
	return got
}

// merged fails unless the skyline of both together is told as it is by hand, and tells it.
func merged(t *testing.T, a, b []api.Point) []api.Point {
	t.Helper()
	got, errno := stair.Merge(a, b)
	if want := skyline(slices.Concat(a, b)); errno != api.OK || !slices.Equal(got, want) {
		t.Fatalf("Merge of %v and %v: %v, %d; not %v", a, b, got, errno, want)
	}
	return got
}

// beats fails unless it is told as it is by hand whether one of s is over p, and few are looked at for that.
func beats(t *testing.T, s []api.Point, p api.Point) {
	t.Helper()
	got, looked, errno := stair.Beats(s, p)
	if want := isOver(s, p); errno != api.OK || got != want {
		t.Fatalf("Beats of %v and %v: %t, %d; not %t", s, p, got, errno, want)
	}
	if looked < 0 || got && looked < 1 || looked > samples.Log(len(s)+1)+1 {
		t.Fatalf("Beats of %v and %v: %t; %d of %d were looked at", s, p, got, looked, len(s))
	}
}

// The chapter's examples.

func TestTheChaptersExamples(t *testing.T) {
	l := append(samples.FourPoints(), point(5, 7, 3))
	if got := of(t, l...); !slices.Equal(got, []api.Point{l[1], l[3], l[4]}) {
		t.Errorf("the skyline: %v", got)
	}
	s := merged(t, []api.Point{point(2, 2, 5), point(4, 7, 3)}, []api.Point{point(6, 3, 4), point(7, 9, 0)})
	if !slices.Equal(s, []api.Point{point(2, 2, 5), point(6, 3, 4), point(4, 7, 3), point(7, 9, 0)}) {
		t.Errorf("both together: %v", s)
	}
	for _, c := range []struct {
		x, y int64
		want bool
	}{{1, 1, true}, {3, 4, false}, {9, 1, false}} {
		if got, _, errno := stair.Beats(s, point(0, c.x, c.y)); got != c.want || errno != api.OK {
			t.Errorf("Beats of %d %d: %t, %d", c.x, c.y, got, errno)
		}
		beats(t, s, point(0, c.x, c.y))
	}
	no := []api.Point{point(2, 2, 5), point(3, 4, 5)}
	if got, errno := stair.Merge(no, nil); stair.Right(no) || got != nil || errno != api.ErrStair {
		t.Errorf("Merge of %v: %v, %d", no, got, errno)
	}
}

// P15.1: Right

// stairs are some, by what they are.
func stairs() map[string][]api.Point {
	return map[string][]api.Point{
		"no points":                           {},
		"one":                                 {point(7, 3, 4)},
		"one at the least numbers":            {point(0, least, least)},
		"one at the greatest numbers":         {point(math.MaxUint32, greatest, greatest)},
		"X rises, Y falls":                    {point(9, 0, 4), point(3, 1, 2), point(8, 4, -1), point(0, 5, -7)},
		"all at one place":                    {point(1, 4, 4), point(2, 4, 4), point(7, 4, 4), point(math.MaxUint32, 4, 4)},
		"two at each place":                   {point(5, 0, 4), point(6, 0, 4), point(0, 1, 2), point(9, 1, 2), point(2, 2, 1), point(3, 2, 1)},
		"two at the first place":              {point(5, 0, 4), point(6, 0, 4), point(0, 1, 2)},
		"two at the last place":               {point(9, 0, 4), point(3, 1, 2), point(6, 1, 2)},
		"from the least to the greatest":      {point(9, least, greatest), point(3, greatest, least)},
		"beside the least and the greatest":   {point(9, least, greatest), point(3, least+1, greatest-1), point(2, greatest, least)},
		"names at one place past half of all": {point(1<<31-1, 4, 4), point(1<<31, 4, 4)},
	}
}

// noStairs are lists that are none, by what is wrong.
func noStairs() map[string][]api.Point {
	return map[string][]api.Point{
		"X and Y rise":                          {point(1, 0, 0), point(2, 1, 1)},
		"X and Y fall":                          {point(1, 1, 1), point(2, 0, 0)},
		"X falls, Y rises":                      {point(1, 1, 0), point(2, 0, 1)},
		"one Y":                                 {point(2, 2, 5), point(3, 4, 5)},
		"one Y, X falls":                        {point(2, 4, 5), point(3, 2, 5)},
		"one X, Y falls":                        {point(2, 2, 5), point(3, 2, 4)},
		"one X, Y rises":                        {point(2, 2, 4), point(3, 2, 5)},
		"one place, names fall":                 {point(3, 2, 5), point(2, 2, 5)},
		"one place, names past half of all":     {point(1<<31, 2, 5), point(1, 2, 5)},
		"one place, one name":                   {point(3, 2, 5), point(3, 2, 5)},
		"one name, at two places":               {point(3, 2, 5), point(3, 4, 1)},
		"one name, far from one another":        {point(3, 2, 5), point(1, 4, 1), point(3, 5, 0)},
		"the least name twice":                  {point(0, 2, 5), point(0, 4, 1)},
		"the greatest name twice":               {point(math.MaxUint32, 2, 5), point(7, 3, 3), point(math.MaxUint32, 4, 1)},
		"the last two alone":                    {point(1, 0, 9), point(2, 1, 8), point(3, 2, 7), point(4, 3, 7)},
		"the first two alone":                   {point(1, 0, 9), point(2, 1, 9), point(3, 2, 7), point(4, 3, 6)},
		"the two in the middle alone":           {point(1, 0, 9), point(2, 3, 8), point(3, 2, 7), point(4, 4, 6)},
		"from the least to the greatest, Y too": {point(1, least, least), point(2, greatest, greatest)},
		"from the greatest to the least":        {point(1, greatest, least), point(2, least, greatest)},
	}
}

func TestRight(t *testing.T) {
	for name, l := range stairs() {
		t.Run(name, func(t *testing.T) {
			if !stair.Right(l) || !isStair(l) {
				t.Errorf("Right of %v: %t", l, stair.Right(l))
			}
		})
	}
	for name, l := range noStairs() {
		t.Run(name, func(t *testing.T) {
			if stair.Right(l) || isStair(l) {
				t.Errorf("Right of %v: %t", l, stair.Right(l))
			}
		})
	}
	if !stair.Right(nil) {
		t.Error("Right of none: false")
	}
}

// few are all lists of n points with X and Y from 0 on, below side, and names from 1 on, up to names: those of one name, too.
func few(n int, side, names int64) [][]api.Point {
	if n == 0 {
		return [][]api.Point{nil}
	}
	var all [][]api.Point
	for _, l := range few(n-1, side, names) {
		for x := range side {
			for y := range side {
				for name := range names {
					all = append(all, append(slices.Clone(l), point(uint32(name+1), x, y)))
				}
			}
		}
	}
	return all
}

func TestRightOfAllListsOfFewPoints(t *testing.T) {
	right := 0
	for n, c := range [][2]int64{{1, 1}, {3, 2}, {3, 3}, {3, 3}, {2, 4}} {
		for _, l := range few(n, c[0], c[1]) {
			if stair.Right(l) != isStair(l) {
				t.Fatalf("Right of %v: %t", l, stair.Right(l))
			}
			if stair.Right(l) {
				right++
			}
		}
	}
	if right < 100 {
		t.Errorf("%d stairs", right)
	}
}

// P15.1: Of

func TestOf(t *testing.T) {
	for name, c := range map[string]struct {
		l    []api.Point
		want []uint32
	}{
		"none":                              {nil, nil},
		"one":                               {[]api.Point{point(7, 3, 4)}, []uint32{7}},
		"one over the other":                {[]api.Point{point(1, 3, 4), point(2, 5, 6)}, []uint32{2}},
		"one over the other, of one X":      {[]api.Point{point(1, 3, 4), point(2, 3, 6)}, []uint32{2}},
		"one over the other, of one Y":      {[]api.Point{point(1, 5, 4), point(2, 3, 4)}, []uint32{1}},
		"two at one place":                  {[]api.Point{point(2, 3, 4), point(1, 3, 4)}, []uint32{1, 2}},
		"two at one place, one over them":   {[]api.Point{point(2, 3, 4), point(1, 3, 4), point(9, 3, 5)}, []uint32{9}},
		"by X, and not by names":            {[]api.Point{point(1, 5, 0), point(2, 4, 1), point(3, 3, 2)}, []uint32{3, 2, 1}},
		"one over many":                     {[]api.Point{point(1, 0, 9), point(2, 4, 1), point(3, 5, 9), point(4, 5, 0), point(5, 9, 9), point(6, 9, 8)}, []uint32{5}},
		"at the least and the greatest":     {[]api.Point{point(1, least, least), point(2, greatest, least), point(3, least, greatest)}, []uint32{3, 2}},
		"all four corners":                  {[]api.Point{point(1, least, least), point(2, greatest, least), point(3, least, greatest), point(4, greatest, greatest)}, []uint32{4}},
		"names past half of all, one place": {[]api.Point{point(math.MaxUint32, 0, 0), point(1<<31, 0, 0), point(0, 0, 0), point(1<<31-1, 0, 0)}, []uint32{0, 1<<31 - 1, 1 << 31, math.MaxUint32}},
	} {
		t.Run(name, func(t *testing.T) {
			var names []uint32
			for _, p := range of(t, c.l...) {
				names = append(names, p.ID)
			}
			if !slices.Equal(names, c.want) {
				t.Errorf("Of %v: %v", c.l, names)
			}
		})
	}
}

func TestOfWhatIsNotUnlike(t *testing.T) {
	for name, l := range samples.WrongPoints() {
		t.Run(name, func(t *testing.T) {
			if got, errno := stair.Of(l); len(got) != 0 || errno != api.ErrArg {
				t.Errorf("Of %v: %v, %d", l, got, errno)
			}
		})
	}
}

func TestOfAllListsOfFewPoints(t *testing.T) {
	for n, c := range [][2]int64{{1, 1}, {4, 2}, {4, 2}, {3, 3}, {2, 4}} {
		for _, l := range few(n, c[0], c[1]) {
			if unlike(l) {
				of(t, l...)
			} else if got, errno := stair.Of(l); len(got) != 0 || errno != api.ErrArg {
				t.Fatalf("Of %v: %v, %d", l, got, errno)
			}
		}
	}
	for _, l := range samples.FewPoints(5, 2) {
		of(t, l...)
	}
}

func TestOfMixedAndManyPoints(t *testing.T) {
	for _, l := range samples.MixedPoints() {
		of(t, l...)
	}
	for _, l := range samples.HowPointsLie() {
		for n := range l {
			of(t, l[:n+1]...)
		}
	}
}

// P15.2

func TestMerge(t *testing.T) {
	a := []api.Point{point(4, 0, 9), point(9, 3, 6), point(2, 6, 3), point(7, 9, 0)}
	for name, b := range map[string][]api.Point{
		"none":                         nil,
		"between all":                  {point(1, 1, 8), point(3, 4, 5), point(5, 7, 2)},
		"at both ends":                 {point(1, -1, 10), point(3, 10, -1)},
		"left of all":                  {point(1, -3, 12), point(3, -1, 10)},
		"right of all":                 {point(1, 10, -1), point(3, 12, -3)},
		"at the same places":           {point(1, 0, 9), point(10, 3, 6), point(3, 6, 3), point(8, 9, 0)},
		"two at each of these places":  {point(3, 0, 9), point(5, 0, 9), point(8, 3, 6), point(10, 3, 6), point(1, 6, 3), point(11, 6, 3), point(6, 9, 0), point(12, 9, 0)},
		"one over all":                 {point(1, 9, 9)},
		"one under one":                {point(1, 2, 5)},
		"one under all":                {point(1, 0, 0)},
		"one over those in the middle": {point(1, 7, 7)},
		"at the X of some, over them":  {point(1, 3, 7), point(3, 6, 4)},
		"at the X of some, under them": {point(1, 3, 5), point(3, 6, 2)},
		"at the Y of some, over them":  {point(1, 4, 6), point(3, 7, 3)},
		"at the Y of some, under them": {point(1, 2, 6), point(3, 5, 3)},
		"over some, and under others":  {point(1, 1, 10), point(3, 5, 1), point(5, 10, 0)},
		"far from all":                 {point(1, least, greatest), point(3, greatest, least)},
		"over all, far from them":      {point(1, greatest, greatest)},
		"under all, far from them":     {point(1, least, least), point(3, least, least)},
	} {
		t.Run(name, func(t *testing.T) {
			if got, other := merged(t, a, b), merged(t, b, a); !slices.Equal(got, other) {
				t.Errorf("the one way %v, the other %v", got, other)
			}
		})
	}
}

// fewStairs are all stairs of few points, with up to four names.
func fewStairs() [][]api.Point {
	var all [][]api.Point
	for n := range 4 {
		for _, l := range few(n, 3, 4) {
			if isStair(l) {
				all = append(all, l)
			}
		}
	}
	return all
}

func TestMergeOfAllStairsOfFewPoints(t *testing.T) {
	all := fewStairs()
	both := 0
	for _, a := range all {
		for _, b := range all {
			if unlike(slices.Concat(a, b)) {
				merged(t, a, b)
				both++
			} else if got, errno := stair.Merge(a, b); len(got) != 0 || errno != api.ErrArg {
				t.Fatalf("Merge of %v and %v: %v, %d", a, b, got, errno)
			}
		}
	}
	if both < 1000 || both == len(all)*len(all) {
		t.Errorf("%d of %d stairs have no name in common", both, len(all))
	}
}

func TestMergeOfWhatIsNoStair(t *testing.T) {
	one := []api.Point{point(3, 2, 5)}
	for name, l := range noStairs() {
		t.Run(name, func(t *testing.T) {
			for _, other := range [][]api.Point{nil, one, l, {point(99, 0, 0)}} {
				if got, errno := stair.Merge(l, other); len(got) != 0 || errno != api.ErrStair {
					t.Errorf("Merge of %v and %v: %v, %d", l, other, got, errno)
				}
				if got, errno := stair.Merge(other, l); len(got) != 0 || errno != api.ErrStair {
					t.Errorf("Merge of %v and %v: %v, %d", other, l, got, errno)
				}
			}
		})
	}
}

func TestMergeOfStairsThatHaveANameInCommon(t *testing.T) {
	a := []api.Point{point(0, 0, 9), point(9, 3, 6), point(math.MaxUint32, 6, 3)}
	for name, b := range map[string][]api.Point{
		"the same one":        a,
		"the first name":      {point(0, 1, 1)},
		"the last name":       {point(5, 1, 8), point(math.MaxUint32, 2, 7)},
		"one in the middle":   {point(1, -3, 12), point(9, 1, 7), point(2, 4, 5)},
		"one, at one place":   {point(9, 3, 6)},
		"one that is over it": {point(9, 8, 8)},
	} {
		t.Run(name, func(t *testing.T) {
			for _, pair := range [][2][]api.Point{{a, b}, {b, a}} {
				if got, errno := stair.Merge(pair[0], pair[1]); len(got) != 0 || errno != api.ErrArg {
					t.Errorf("Merge of %v and %v: %v, %d", pair[0], pair[1], got, errno)
				}
			}
		})
	}
}

// P15.3

func TestBeats(t *testing.T) {
	s := []api.Point{point(4, 0, 9), point(9, 3, 6), point(12, 3, 6), point(2, 6, 3)}
	for name, c := range map[string]struct {
		x, y int64
		want bool
	}{
		"at the first one":          {0, 9, false},
		"at two":                    {3, 6, false},
		"at the last one":           {6, 3, false},
		"left of the first one":     {-1, 9, true},
		"right of the first one":    {1, 9, false},
		"above the first one":       {0, 10, false},
		"below the first one":       {0, 8, true},
		"left of two":               {2, 6, true},
		"right of two":              {4, 6, false},
		"above two":                 {3, 7, false},
		"below two":                 {3, 5, true},
		"right of the last one":     {7, 3, false},
		"below the last one":        {6, 2, true},
		"in the first inner corner": {0, 6, true},
		"past it":                   {1, 7, false},
		"in the last inner corner":  {3, 3, true},
		"past that":                 {4, 4, false},
		"right of all":              {7, least, false},
		"above all":                 {least, 10, false},
		"below all":                 {6, least, true},
		"left of all":               {least, 9, true},
		"at the least numbers":      {least, least, true},
		"at the greatest numbers":   {greatest, greatest, false},
		"at the least X":            {least, greatest, false},
		"at the greatest X":         {greatest, least, false},
	} {
		t.Run(name, func(t *testing.T) {
			for _, id := range []uint32{0, 4, 9, 100} {
				if got, _, errno := stair.Beats(s, point(id, c.x, c.y)); got != c.want || errno != api.OK {
					t.Errorf("Beats of %d %d: %t, %d", c.x, c.y, got, errno)
				}
				beats(t, s, point(id, c.x, c.y))
			}
		})
	}
}

func TestBeatsOfNone(t *testing.T) {
	for _, p := range samples.PlacesAt(nil) {
		if got, looked, errno := stair.Beats(nil, p); got || looked > 1 || errno != api.OK {
			t.Errorf("Beats of none and %v: %t, %d, %d", p, got, looked, errno)
		}
	}
}

func TestBeatsOfWhatIsNoStair(t *testing.T) {
	for name, l := range noStairs() {
		t.Run(name, func(t *testing.T) {
			for _, p := range samples.PlacesAt(l) {
				if got, looked, errno := stair.Beats(l, p); got || looked != 0 || errno != api.ErrStair {
					t.Errorf("Beats of %v and %v: %t, %d, %d", l, p, got, looked, errno)
				}
			}
		})
	}
}

func TestBeatsOfAllStairsOfFewPoints(t *testing.T) {
	for _, s := range fewStairs() {
		for _, p := range samples.PlacesAt(append(slices.Clone(s), point(0, 1, 1))) {
			beats(t, s, p)
		}
	}
}

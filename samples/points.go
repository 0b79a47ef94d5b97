package samples

import (
	"math"
	"slices"
	"strconv"

	"gridiron/api"
	"gridiron/item"
)

const (
	least    = math.MinInt64
	greatest = math.MaxInt64
)

// Point is the point of that name at x, y.
func Point(id uint32, x, y int64) api.Point {
	return api.Point{X: x, Y: y, ID: id}
}

// Points are n points with X and Y from 0 on, below unlike.
func Points(n, unlike int) []api.Point {
	next := Turns(n*13 + unlike)
	var l []api.Point
	for i := range n {
		l = append(l, api.Point{X: int64(next(unlike)), Y: int64(next(unlike)), ID: Name(i)})
	}
	return l
}

// MixedPoints are lists of few and of many points, whose places are all the same, or mostly unlike.
func MixedPoints() [][]api.Point {
	var all [][]api.Point
	for _, n := range []int{1, 2, 3, 7, 8, 9, 31, 64, 150} {
		for _, unlike := range []int{1, 2, 7, 50, 5000} {
			all = append(all, Points(n, unlike))
		}
	}
	return all
}

// ManyPoints are thousands of points in some orders, by what they are called.
func ManyPoints() map[string][]api.Point {
	all := map[string][]api.Point{"most of all, in no order": Points(30000, 1<<30)}
	for _, unlike := range []int{1, 40, 100000} {
		l := Points(2000, unlike)
		ways := Ways(slices.SortedFunc(slices.Values(l), item.ByY))
		ways["rising by X"] = slices.SortedFunc(slices.Values(l), item.ByX)
		for name, order := range ways {
			all[name+", below "+strconv.Itoa(unlike)] = order
		}
	}
	return all
}

// FewPoints are all lists of n points with X and Y from 0 on, below side; their names fall.
func FewPoints(n, side int) [][]api.Point {
	var one []api.Point
	for place := range side * side {
		one = append(one, api.Point{X: int64(place / side), Y: int64(place % side)})
	}
	return few(n, one, func(p *api.Point, name uint32) { p.ID = name })
}

// OrdersOfFewPoints are all orders of some lists of few points.
func OrdersOfFewPoints() [][]api.Point {
	var all [][]api.Point
	for _, l := range append(FewPoints(3, 2), Points(5, 1), Points(5, 3), Points(5, 1000)) {
		all = append(all, Orders(l)...)
	}
	return all
}

// HowPointsLie are lists of ten points, by how they lie to one another.
func HowPointsLie() map[string][]api.Point {
	two, turned := []int64{least, greatest}, []int64{greatest, least}
	return map[string][]api.Point{
		"at one place":                          ten(func(i int) (int64, int64) { return 4, -4 }),
		"of one X":                              ten(func(i int) (int64, int64) { return 4, int64(i) }),
		"of one X, falling":                     ten(func(i int) (int64, int64) { return 4, int64(-i) }),
		"of one X, the last one far from all":   ten(func(i int) (int64, int64) { return 4, []int64{0, greatest}[i/9] }),
		"of one X, which is the least number":   ten(func(i int) (int64, int64) { return least, int64(i / 4) }),
		"of one Y":                              ten(func(i int) (int64, int64) { return int64(i), 4 }),
		"of one Y, falling":                     ten(func(i int) (int64, int64) { return int64(-i), 4 }),
		"of one Y, which is the greatest":       ten(func(i int) (int64, int64) { return int64(i / 3), greatest }),
		"rising both ways":                      ten(func(i int) (int64, int64) { return int64(i), int64(i) }),
		"the one way rising, the other falling": ten(func(i int) (int64, int64) { return int64(i), int64(9 - i) }),
		"of two X, and of three Y":              ten(func(i int) (int64, int64) { return int64(i % 2), int64(i % 3) }),
		"at the least and the greatest numbers": ten(func(i int) (int64, int64) { return two[i%2], turned[i/2%2] }),
		"beside the least and the greatest":     ten(func(i int) (int64, int64) { return two[i%2] + int64(1-i%2*2), least + int64(i) }),
	}
}

// ten are ten points, the i-th of which stands where at tells; their names are in no order.
func ten(at func(i int) (int64, int64)) []api.Point {
	var l []api.Point
	for i := range 10 {
		x, y := at(i)
		l = append(l, Point(uint32(i*7%10), x, y))
	}
	return l
}

// WrongPoints are lists of points that are not right, by what is wrong.
func WrongPoints() map[string][]api.Point {
	return map[string][]api.Point{
		"two of one name":                      {Point(1, 0, 0), Point(1, 0, 3)},
		"two that are the same":                {Point(7, 2, 3), Point(7, 2, 3)},
		"two of one name far from one another": {Point(7, 0, 3), Point(8, 1, 1), Point(9, 2, 2), Point(7, 9, 9)},
		"two of the least name":                {Point(0, 0, 0), Point(0, 1, 1)},
		"two of the greatest name":             {Point(math.MaxUint32, 0, 0), Point(1, 1, 1), Point(math.MaxUint32, 0, 0)},
		"three of one name":                    {Point(5, 0, 0), Point(5, 1, 1), Point(5, 2, 2)},
	}
}

// FourPoints are those of the chapters' examples.
func FourPoints() []api.Point {
	return []api.Point{Point(1, 0, 0), Point(2, 2, 5), Point(3, 2, 1), Point(4, 7, 3)}
}

// NoneOfFour are points each of which is one of FourPoints but for its name or its place.
func NoneOfFour() []api.Point {
	return []api.Point{
		Point(2, 0, 0), Point(1, 2, 5), Point(3, 2, 5), Point(2, 2, 1), Point(4, 2, 1), // another one's place
		Point(1, 0, 1), Point(1, 1, 0), Point(1, -1, 0), Point(1, 0, -1), Point(2, 2, 0), Point(4, 7, 5), Point(4, 2, 3), // one coordinate alone
		Point(2, 5, 2), Point(3, 1, 2), Point(4, 3, 7), // X and Y exchanged
		Point(1, least, 0), Point(1, 0, least), Point(4, greatest, 3), Point(4, 7, greatest), Point(4, greatest, greatest),
		Point(0, 0, 0), Point(5, 7, 3), Point(math.MaxUint32, 2, 5), {}, // no such name
	}
}

// SixPoints are points at the sides of BoxesOfSix.
func SixPoints() []api.Point {
	return []api.Point{Point(5, -3, 2), Point(9, 2, 2), Point(1, 2, 8), Point(7, 8, -4), Point(3, 10, 20), Point(2, 8, 8)}
}

// Boxed is a box, and the names of those of SixPoints that it has.
type Boxed struct {
	Box   api.Box
	Names []uint32
}

// BoxesOfSix are boxes, by how they lie to SixPoints.
func BoxesOfSix() map[string]Boxed {
	return map[string]Boxed{
		"at all four sides":                     {Box(-3, 10, -4, 20), []uint32{1, 2, 3, 5, 7, 9}},
		"within all four sides":                 {Box(-2, 9, -3, 19), []uint32{1, 2, 9}},
		"at the left side":                      {Box(-3, 1, 0, 9), []uint32{5}},
		"at the right side":                     {Box(-2, 2, 0, 9), []uint32{1, 9}},
		"at the lower side":                     {Box(0, 9, 2, 7), []uint32{9}},
		"at the upper side":                     {Box(0, 9, 3, 8), []uint32{1, 2}},
		"at corners":                            {Box(2, 8, 2, 8), []uint32{1, 2, 9}},
		"at one corner":                         {Box(8, 10, -9, -4), []uint32{7}},
		"one place":                             {Box(2, 2, 8, 8), []uint32{1}},
		"one place, at which none is":           {Box(2, 2, 7, 7), nil},
		"one X":                                 {Box(8, 8, least, greatest), []uint32{2, 7}},
		"one Y":                                 {Box(least, greatest, 8, 8), []uint32{1, 2}},
		"beside all by X":                       {Box(3, 7, -9, 30), nil},
		"beside all by Y":                       {Box(-9, 30, 9, 19), nil},
		"left of all":                           {Box(-9, -4, -9, 30), nil},
		"right of all":                          {Box(11, 12, -9, 30), nil},
		"below all":                             {Box(-9, 30, -9, -5), nil},
		"above all":                             {Box(-9, 30, 21, 22), nil},
		"X1 above X2":                           {Box(3, 2, -9, 30), nil},
		"X1 above X2, over all":                 {Box(10, -3, -4, 20), nil},
		"Y1 above Y2":                           {Box(-9, 30, 3, 2), nil},
		"Y1 above Y2, over all":                 {Box(-3, 10, 20, -4), nil},
		"both above":                            {Box(10, -3, 20, -4), nil},
		"the wrong way round, by all numbers":   {Box(greatest, least, greatest, least), nil},
		"X1 above X2, from greatest to least":   {Box(greatest, least, least, greatest), nil},
		"Y1 above Y2, from greatest to least":   {Box(least, greatest, greatest, least), nil},
		"all numbers":                           {Whole(), []uint32{1, 2, 3, 5, 7, 9}},
		"the least numbers alone":               {Box(least, least, least, least), nil},
		"up to the greatest numbers":            {Box(8, greatest, 8, greatest), []uint32{2, 3}},
		"from the least numbers on, up to some": {Box(least, 2, least, 2), []uint32{5, 9}},
	}
}

// Box is the box from x1 to x2 and from y1 to y2; its name says nothing.
func Box(x1, x2, y1, y2 int64) api.Box {
	return api.Box{X1: x1, X2: x2, Y1: y1, Y2: y2, ID: 1}
}

// Whole has all points.
func Whole() api.Box {
	return Box(least, greatest, least, greatest)
}

// In are the names of the points that b has, rising.
func In(l []api.Point, b api.Box) []uint32 {
	var names []uint32
	for _, p := range l {
		if b.X1 <= p.X && p.X <= b.X2 && b.Y1 <= p.Y && p.Y <= b.Y2 {
			names = append(names, p.ID)
		}
	}
	slices.Sort(names)
	return names
}

// BoxesAt are boxes whose sides lie at the points, beside them, and at the least and the greatest number, the wrong way round, too: of few points all there are, of more some of them.
func BoxesAt(l []api.Point) []api.Box {
	xs, ys := numbersAt(l)
	const some = 1300
	if len(xs)*len(xs)*len(ys)*len(ys) <= some {
		return boxesOf(xs, ys)
	}
	next := Turns(len(l))
	x, y := func() int64 { return xs[next(len(xs))] }, func() int64 { return ys[next(len(ys))] }
	boxes := []api.Box{Whole(), Box(least, greatest, y(), y()), Box(x(), x(), least, greatest)}
	for range some / 2 {
		boxes = append(boxes, Box(x(), x(), y(), y()))
	}
	return boxes
}

// PlacesAt are points that stand where these do, with coordinates of two of them, beside them, and at the least and the greatest number; their names are 0: of few points all there are, of more some of them.
func PlacesAt(l []api.Point) []api.Point {
	xs, ys := numbersAt(l)
	const some = 130
	if len(xs)*len(ys) <= some {
		return placesOf(xs, ys)
	}
	places := placesOf([]int64{least, greatest}, []int64{least, greatest})
	next := Turns(len(l))
	for range some / 2 {
		p := l[next(len(l))]
		places = append(places, Point(0, p.X, p.Y), Point(0, xs[next(len(xs))], ys[next(len(ys))]))
	}
	return places
}

// numbersAt are the numbers of the points, those of X and those of Y, with those beside them.
func numbersAt(l []api.Point) ([]int64, []int64) {
	var xs, ys []int64
	for _, p := range l {
		xs, ys = append(xs, p.X), append(ys, p.Y)
	}
	return beside(xs), beside(ys)
}

// beside are these numbers, those beside them, and the least and the greatest number; each once, rising.
func beside(numbers []int64) []int64 {
	all := []int64{least, greatest}
	for _, at := range numbers {
		all = append(all, max(at, least+1)-1, at, min(at, greatest-1)+1)
	}
	slices.Sort(all)
	return slices.Compact(all)
}

// placesOf are points without a name at all of these numbers.
func placesOf(xs, ys []int64) []api.Point {
	var places []api.Point
	for _, x := range xs {
		for _, y := range ys {
			places = append(places, Point(0, x, y))
		}
	}
	return places
}

// boxesOf are all boxes with sides at these numbers.
func boxesOf(xs, ys []int64) []api.Box {
	var boxes []api.Box
	for _, x1 := range xs {
		for _, x2 := range xs {
			for _, y1 := range ys {
				for _, y2 := range ys {
					boxes = append(boxes, Box(x1, x2, y1, y2))
				}
			}
		}
	}
	return boxes
}

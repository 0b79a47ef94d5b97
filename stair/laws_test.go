package stair_test

import (
	"slices"
	"testing"

	"gridiron/api"
	"gridiron/item"
	"gridiron/samples"
	"gridiron/stair"
)

// steps is a stair of n points, each of so many at one place.
func steps(n, each int) []api.Point {
	var s []api.Point
	for i := range n {
		s = append(s, point(uint32(n-i/each*each+i%each), int64(i/each*3), int64(-i/each*3)))
	}
	return s
}

// P15.1

func TestLongStairsAreRight(t *testing.T) {
	for _, n := range []int{1, 2, 3, 50, 3001} {
		for _, each := range []int{1, 2, 3, 5000} {
			s := steps(n, each)
			if !stair.Right(s) {
				t.Fatalf("%d points, %d at each place: Right: false", n, each)
			}
			for _, i := range []int{0, n / 2, n - 2} {
				if i < 0 || i+1 >= n {
					continue
				}
				wrong := slices.Clone(s)
				wrong[i], wrong[i+1] = wrong[i+1], wrong[i]
				if stair.Right(wrong) {
					t.Errorf("%d points, %d at each place, two of them exchanged: Right: true", n, each)
				}
				wrong = slices.Clone(s)
				wrong[n-1].ID = wrong[i].ID
				if stair.Right(wrong) {
					t.Errorf("%d points, %d at each place, one name twice: Right: true", n, each)
				}
			}
		}
	}
}

func TestOfManyPoints(t *testing.T) {
	for name, l := range samples.ManyPoints() {
		t.Run(name, func(t *testing.T) {
			if len(l) < 5000 {
				of(t, l...)
			}
			s, errno := stair.Of(l)
			if errno != api.OK || !isStair(s) || len(s) == 0 {
				t.Fatalf("Of %d points: %v, %d", len(l), s, errno)
			}
			for _, p := range l {
				if isOver(s, p) == slices.Contains(s, p) {
					t.Fatalf("%v is on it: %t", p, slices.Contains(s, p))
				}
			}
		})
	}
}

// P15.3

func TestHowFewOfLongStairsAreLookedAt(t *testing.T) {
	for n := range 140 {
		for _, each := range []int{1, 2, 3, 200} {
			s := steps(n, each)
			for _, p := range samples.PlacesAt(append(slices.Clone(s), point(0, 0, 0))) {
				beats(t, s, p)
			}
			for _, p := range s {
				beats(t, s, p)
				beats(t, s, point(0, p.X, p.Y-1))
				beats(t, s, point(0, p.X-2, p.Y))
				beats(t, s, point(0, p.X+1, p.Y))
			}
		}
	}
	for _, n := range []int{1<<16 - 1, 1 << 16, 100000} {
		s := steps(n, 1)
		for i := 0; i < n; i += n / 17 {
			beats(t, s, s[i])
			beats(t, s, point(0, s[i].X, s[i].Y-1))
		}
	}
}

// P15.4

// lists are some of unlike points.
func lists() [][]api.Point {
	all := append(samples.MixedPoints(), samples.FewPoints(3, 3)...)
	for _, l := range samples.HowPointsLie() {
		all = append(all, l)
	}
	return all
}

func TestASkylineIsAStairAndItsOwnSkyline(t *testing.T) {
	for _, l := range lists() {
		s := of(t, l...)
		again, errno := stair.Of(s)
		if !stair.Right(s) || errno != api.OK || !slices.Equal(again, s) {
			t.Errorf("the skyline of %v is %v, and that one's %v", l, s, again)
		}
	}
}

func TestEachPointIsOnItOrOneOfItIsOverThePoint(t *testing.T) {
	for _, l := range lists() {
		s := of(t, l...)
		for _, p := range l {
			under, _, errno := stair.Beats(s, p)
			if errno != api.OK || under == slices.Contains(s, p) {
				t.Errorf("the skyline of %v: %v; Beats of %v: %t", l, s, p, under)
			}
		}
	}
}

func TestTheSkylineOfTwoListsIsThatOfBothTheirSkylines(t *testing.T) {
	for _, l := range lists() {
		whole := of(t, l...)
		for _, cut := range []int{0, 1, len(l) / 3, len(l) / 2, len(l) - 1, len(l)} {
			one, other := of(t, l[:cut]...), of(t, l[cut:]...)
			if got := merged(t, one, other); !slices.Equal(got, whole) {
				t.Errorf("of %v cut at %d: %v, not %v", l, cut, got, whole)
			}
			if got := merged(t, other, one); !slices.Equal(got, whole) {
				t.Errorf("of %v cut at %d, the other way round: %v, not %v", l, cut, got, whole)
			}
		}
	}
}

func TestInWhicheverOrderSkylinesAreMerged(t *testing.T) {
	for _, unlike := range []int{2, 7, 50, 5000} {
		l := samples.Points(40, unlike)
		whole := of(t, l...)
		parts := [][]api.Point{of(t, l[:7]...), of(t, l[7:9]...), of(t, l[9:30]...), of(t, l[30:]...)}
		for _, order := range samples.Orders([]int{0, 1, 2, 3}) {
			var s []api.Point
			for _, i := range order {
				s = merged(t, s, parts[i])
			}
			if !slices.Equal(s, whole) {
				t.Errorf("in the order %v: %v, not %v", order, s, whole)
			}
			left, right := merged(t, parts[order[0]], parts[order[1]]), merged(t, parts[order[2]], parts[order[3]])
			if s := merged(t, left, right); !slices.Equal(s, whole) {
				t.Errorf("two and two, in the order %v: %v, not %v", order, s, whole)
			}
		}
	}
}

func TestTheOrderInWhichPointsAreHandedInSaysNothing(t *testing.T) {
	for _, n := range []int{2, 3, 9, 40, 200} {
		for _, unlike := range []int{2, 30, 3000} {
			l := samples.Points(n, unlike)
			want := of(t, l...)
			for name, order := range samples.Ways(slices.SortedFunc(slices.Values(l), item.ByX)) {
				if got := of(t, order...); !slices.Equal(got, want) {
					t.Errorf("%s: %v, not %v", name, got, want)
				}
			}
		}
	}
}

// R3 and R4

func TestNoListThatIsGivenIsChanged(t *testing.T) {
	whole := append(steps(40, 2), samples.Points(60, 50)...)
	before := slices.Clone(whole)
	stair.Right(whole[:40])
	stair.Right(whole[:50])
	stair.Of(whole[40:70])
	stair.Of(whole[10:80])
	stair.Merge(whole[:10], whole[10:20])
	stair.Merge(whole[10:20], whole[:10])
	stair.Merge(whole[:20], nil)
	stair.Merge(nil, whole[:20])
	stair.Merge(whole[:20], whole[:10])
	stair.Merge(whole[:20], whole[30:50])
	stair.Beats(whole[:40], whole[3])
	stair.Beats(whole[:60], whole[3])
	if !slices.Equal(whole, before) {
		t.Error("a list that is given, or the room behind it, is changed")
	}
}

func TestWhatIsToldIsInMemoryOfItsOwn(t *testing.T) {
	for _, n := range []int{1, 2, 9, 40} {
		given := steps(n, 1)
		before := slices.Clone(given)
		calls := map[string]func() []api.Point{
			"Of":                                 func() []api.Point { s, _ := stair.Of(given); return s },
			"Merge with none":                    func() []api.Point { s, _ := stair.Merge(given, nil); return s },
			"Merge of none and":                  func() []api.Point { s, _ := stair.Merge(nil, given); return s },
			"Merge of halves":                    func() []api.Point { s, _ := stair.Merge(given[:n/2], given[n/2:]); return s },
			"Merge of halves, the other way":     func() []api.Point { s, _ := stair.Merge(given[n/2:], given[:n/2]); return s },
			"Merge with one under all":           func() []api.Point { s, _ := stair.Merge(given, []api.Point{point(99, least, least)}); return s },
			"Of some that have one far below it": func() []api.Point { s, _ := stair.Of(append(slices.Clone(given), point(99, least, least))); return s },
		}
		for name, call := range calls {
			kept, told := call(), call()
			samples.Spoil(told, point(77, 77, 77))
			if !slices.Equal(kept, before) || !slices.Equal(given, before) {
				t.Fatalf("%s: of %d points: an answer shares memory", name, n)
			}
		}
	}
}

func TestTheSameIsToldAgain(t *testing.T) {
	s := steps(50, 2)
	for _, p := range samples.PlacesAt(s) {
		one, looked, _ := stair.Beats(s, p)
		other, again, _ := stair.Beats(s, p)
		if one != other || looked != again {
			t.Errorf("Beats of %v: %t, %d, and then %t, %d", p, one, looked, other, again)
		}
	}
}

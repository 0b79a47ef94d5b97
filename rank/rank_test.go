package rank_test

import (
	"math"
	"slices"
	"testing"

	"gridiron/rank"
)

const (
	least    = math.MinInt64
	greatest = math.MaxInt64
)

// answer is a place, and how many numbers were looked at for it.
type answer struct{ place, looked int }

func first(l []int64, x int64) answer {
	place, looked := rank.First(l, x)
	return answer{place, looked}
}

func above(l []int64, x int64) answer {
	place, looked := rank.Above(l, x)
	return answer{place, looked}
}

// byHand does what the chapter says of looking for a place, with a list of the places that are left, and counts one by one.
func byHand(l []int64, so func(n int64) bool) answer {
	left := make([]int, len(l))
	for i := range left {
		left[i] = i
	}
	var known answer
	for len(left) > 0 {
		ahead := len(left) / 2 // as many stand ahead of the middle one, of an even number of the second one
		middle := left[ahead]
		known.looked++
		if so(l[middle]) {
			left = left[:ahead]
		} else {
			known.place = middle + 1
			left = left[ahead+1:]
		}
	}
	return known
}

// asByHand fails unless First and Above tell of l and x what is done by hand.
func asByHand(t *testing.T, l []int64, x int64) {
	t.Helper()
	if got, want := first(l, x), byHand(l, func(n int64) bool { return n >= x }); got != want {
		t.Fatalf("First of %v and %d: %v, not %v", l, x, got, want)
	}
	if got, want := above(l, x), byHand(l, func(n int64) bool { return n > x }); got != want {
		t.Fatalf("Above of %v and %d: %v, not %v", l, x, got, want)
	}
}

// mixed are n numbers by a rule that goes round, of so many unlike ones, about half of them below 0.
func mixed(n, unlike int) []int64 {
	list := make([]int64, n)
	turn := uint64(n)*2654435761 + uint64(unlike)
	for i := range list {
		turn = turn*6364136223846793005 + 1442695040888963407
		list[i] = int64(int(turn>>33)%unlike - unlike/2)
	}
	return list
}

// rising are the same numbers, put in order.
func rising(n, unlike int) []int64 {
	list := mixed(n, unlike)
	slices.Sort(list)
	return list
}

// P4.1

// search is what is looked for in a list, and what First and Above are to tell of it.
type search struct {
	name         string
	list         []int64
	x            int64
	first, above answer
}

// tell fails at the searches of which First or Above tell something else.
func tell(t *testing.T, searches []search) {
	t.Helper()
	for _, s := range searches {
		if got := first(s.list, s.x); got != s.first {
			t.Errorf("%s: First: %v, not %v", s.name, got, s.first)
		}
		if got := above(s.list, s.x); got != s.above {
			t.Errorf("%s: Above: %v, not %v", s.name, got, s.above)
		}
	}
}

func TestFirstAndAbove(t *testing.T) {
	tell(t, []search{
		{"the chapter's", []int64{1, 3, 3, 7}, 3, answer{1, 3}, answer{3, 2}},
		{"the chapter's, past all", []int64{1, 3, 3, 7}, 8, answer{4, 2}, answer{4, 2}},
		{"the chapter's, below all", []int64{1, 3, 3, 7}, 0, answer{0, 3}, answer{0, 3}},
		{"the first", []int64{1, 3, 3, 7}, 1, answer{0, 3}, answer{1, 3}},
		{"the last", []int64{1, 3, 3, 7}, 7, answer{3, 2}, answer{4, 2}},
		{"one that is not there", []int64{1, 3, 3, 7}, 2, answer{1, 3}, answer{1, 3}},
		{"no number", nil, 3, answer{}, answer{}},
		{"an empty list", []int64{}, 3, answer{}, answer{}},
		{"one number, less", []int64{5}, 6, answer{1, 1}, answer{1, 1}},
		{"one number, the same", []int64{5}, 5, answer{0, 1}, answer{1, 1}},
		{"one number, more", []int64{5}, 4, answer{0, 1}, answer{0, 1}},
		{"of two the second one is looked at, and the first", []int64{1, 2}, 1, answer{0, 2}, answer{1, 2}},
		{"of two the second one is looked at, and perhaps alone", []int64{1, 2}, 2, answer{1, 2}, answer{2, 1}},
		{"past two", []int64{1, 2}, 3, answer{2, 1}, answer{2, 1}},
		{"below two", []int64{1, 2}, 0, answer{0, 2}, answer{0, 2}},
		{"between six", []int64{1, 3, 5, 7, 9, 11}, 6, answer{3, 3}, answer{3, 3}},
		{"behind the middle of six", []int64{1, 3, 5, 7, 9, 11}, 9, answer{4, 3}, answer{5, 3}},
		{"all the same", []int64{5, 5, 5, 5, 5}, 5, answer{0, 3}, answer{5, 2}},
		{"all the same, and less", []int64{5, 5, 5, 5, 5}, 6, answer{5, 2}, answer{5, 2}},
		{"all the same, and more", []int64{5, 5, 5, 5, 5}, 4, answer{0, 3}, answer{0, 3}},
		{"below 0", []int64{-5, -3, -3, -1}, -3, answer{1, 3}, answer{3, 2}},
		{"the least number", []int64{least, 0, greatest}, least, answer{0, 2}, answer{1, 2}},
		{"the greatest number", []int64{least, 0, greatest}, greatest, answer{2, 2}, answer{3, 2}},
		{"the least number among greater ones", []int64{0, greatest}, least, answer{0, 2}, answer{0, 2}},
		{"the greatest number among lesser ones", []int64{least, 0}, greatest, answer{2, 1}, answer{2, 1}},
	})
}

func TestFirstAndAboveOfNumbersThatDoNotRise(t *testing.T) {
	tell(t, []search{
		{"one ahead of the middle is not seen", []int64{7, 1, 3}, 3, answer{2, 2}, answer{3, 2}},
		{"one behind the middle is not seen", []int64{0, 5, 5, 1}, 5, answer{1, 3}, answer{4, 2}},
		{"what lies ahead of a lesser one does not count", []int64{1, 9, 0, 9}, 5, answer{3, 2}, answer{3, 2}},
		{"falling", []int64{9, 7, 5, 3, 1}, 5, answer{0, 3}, answer{5, 2}},
		{"falling from the greatest to the least", []int64{greatest, least}, 0, answer{2, 1}, answer{2, 1}},
	})
}

func TestAllListsOfFewAreSearchedAsByHand(t *testing.T) {
	codes := 1
	for n := range 9 {
		for code := range codes {
			list := make([]int64, n)
			for rest, i := code, 0; i < n; i++ {
				list[i] = int64(rest % 3)
				rest /= 3
			}
			for x := int64(-1); x <= 3; x++ {
				asByHand(t, list, x)
			}
		}
		codes *= 3
	}
}

func TestListsOfManyAreSearchedAsByHand(t *testing.T) {
	for n := range 200 {
		for _, unlike := range []int{2, 9, 1000} {
			for _, list := range [][]int64{mixed(n, unlike), rising(n, unlike)} {
				for x := int64(-unlike) / 2; x <= int64(unlike)/2; x += int64(1 + unlike/15) {
					asByHand(t, list, x)
				}
				asByHand(t, list, least)
				asByHand(t, list, greatest)
			}
		}
	}
}

// P4.2

func TestSqueeze(t *testing.T) {
	cases := []struct {
		name       string
		list, want []int64
	}{
		{"the chapter's", []int64{3, 1, 3}, []int64{1, 3}},
		{"none", nil, nil},
		{"an empty list", []int64{}, nil},
		{"one", []int64{0}, []int64{0}},
		{"the same again and again", []int64{5, 5, 5, 5}, []int64{5}},
		{"all unlike, falling", []int64{9, 7, 5, 3, 1}, []int64{1, 3, 5, 7, 9}},
		{"all unlike, rising", []int64{1, 3, 5}, []int64{1, 3, 5}},
		{"rising, some more than once", []int64{1, 1, 3, 5, 5, 5, 6}, []int64{1, 3, 5, 6}},
		{"the same far apart", []int64{2, 9, 2, 0, 9, 2, 1}, []int64{0, 1, 2, 9}},
		{"below 0", []int64{1, -1, 0, -2, -1}, []int64{-2, -1, 0, 1}},
		{"least and greatest", []int64{greatest, 0, least, greatest, -1, least}, []int64{least, -1, 0, greatest}},
	}
	for _, c := range cases {
		if got := rank.Squeeze(c.list); !slices.Equal(got, c.want) {
			t.Errorf("%s: %v, not %v", c.name, got, c.want)
		}
	}
}

func TestSqueezeIsWhatACountTells(t *testing.T) {
	for n := range 120 {
		list := mixed(n, 31)
		var want []int64
		for x := int64(-31); x <= 31; x++ {
			if slices.Contains(list, x) {
				want = append(want, x)
			}
		}
		if got := rank.Squeeze(list); !slices.Equal(got, want) {
			t.Fatalf("%v: %v, not %v", list, got, want)
		}
	}
}

// log is how often 1 must be doubled to be n at least, counted one by one; the doubled number needs a bit more than n may have.
func log(n int) int {
	times := 0
	for one := uint64(1); n > 0 && one < uint64(n); one *= 2 {
		times++
	}
	return times
}

func TestLog(t *testing.T) {
	cases := []struct{ n, want int }{
		{1, 0}, {2, 1}, {3, 2}, {4, 2}, {5, 3}, // the chapter's
		{0, 0}, {-1, 0}, {-2, 0}, {-5, 0}, {-1 << 32, 0}, {math.MinInt, 0}, {math.MinInt + 1, 0},
		{7, 3}, {8, 3}, {9, 4}, {1000, 10}, {1023, 10}, {1024, 10}, {1025, 11},
		{1<<31 - 1, 31}, {1 << 31, 31}, {1<<31 + 1, 32}, {1 << 32, 32}, {1<<32 + 1, 33},
		{1<<62 - 1, 62}, {1 << 62, 62}, {1<<62 + 1, 63}, {math.MaxInt - 1, 63}, {math.MaxInt, 63},
	}
	for _, c := range cases {
		if got := rank.Log(c.n); got != c.want {
			t.Errorf("Log of %d: %d, not %d", c.n, got, c.want)
		}
	}
}

func TestLogIsHowOftenOneIsDoubled(t *testing.T) {
	for n := -100; n < 70000; n++ {
		if got := rank.Log(n); got != log(n) {
			t.Fatalf("Log of %d: %d, not %d", n, got, log(n))
		}
	}
	for times := range 63 {
		for _, n := range []int{1<<times - 1, 1 << times, 1<<times + 1} {
			if got := rank.Log(n); got != log(n) {
				t.Errorf("Log of %d: %d, not %d", n, got, log(n))
			}
		}
	}
}

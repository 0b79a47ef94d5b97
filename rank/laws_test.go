package rank_test

import (
	"slices"
	"testing"

	"gridiron/rank"
)

// P4.3

// parted fails unless the places part l, which rises, into what is less than x, what is x, and what is more.
func parted(t *testing.T, l []int64, x int64, from, to int) {
	t.Helper()
	if from < 0 || from > to || to > len(l) {
		t.Fatalf("%d: the places %d and %d of %d numbers", x, from, to, len(l))
	}
	for i, n := range l {
		if (i < from) != (n < x) || (i >= to) != (n > x) {
			t.Fatalf("%d: the places are %d and %d, but at place %d stands %d", x, from, to, i, n)
		}
	}
}

func TestBothPlacesPartNumbersThatRise(t *testing.T) {
	for _, n := range []int{0, 1, 2, 3, 7, 8, 9, 100, 1000} {
		for _, unlike := range []int{1, 2, 10, 5000} {
			list := rising(n, unlike)
			for _, x := range append(mixed(40, unlike+4), least, greatest) {
				parted(t, list, x, first(list, x).place, above(list, x).place)
			}
			for _, x := range list {
				from, to := first(list, x).place, above(list, x).place
				if from >= to {
					t.Fatalf("%d stands at none of the places from %d to %d", x, from, to)
				}
			}
		}
	}
}

func TestBothPlacesAreAsFarApartAsThereAreNumbersThatAreTheSame(t *testing.T) {
	list := rising(500, 20)
	for x := int64(-12); x <= 12; x++ {
		count := 0
		for _, n := range list {
			if n == x {
				count++
			}
		}
		if from, to := first(list, x).place, above(list, x).place; to-from != count {
			t.Errorf("%d stands at the places from %d to %d, but %d times", x, from, to, count)
		}
	}
}

func TestPlacesAmongSqueezedNumbers(t *testing.T) {
	list := rank.Squeeze(mixed(300, 400))
	for i, x := range list {
		if from, to := first(list, x).place, above(list, x).place; from != i || to != i+1 {
			t.Errorf("%d stands at %d, but from %d to %d", x, i, from, to)
		}
	}
	if again := rank.Squeeze(list); !slices.Equal(again, list) {
		t.Errorf("%v squeezed is %v", list, again)
	}
}

func TestNoMoreAreLookedAtThanTheDoublingsOfOneMore(t *testing.T) {
	for _, n := range []int{0, 1, 2, 3, 4, 5, 6, 7, 8, 9, 63, 64, 65, 1000, 1<<20 - 1, 1 << 20, 1<<20 + 1} {
		for _, list := range [][]int64{rising(n, 1), rising(n, 1<<20), mixed(n, 1<<20)} {
			for _, x := range append(mixed(60, 1<<20), 0, least, greatest) {
				for _, got := range []answer{first(list, x), above(list, x)} {
					if got.looked > log(n+1) || got.looked > rank.Log(n+1) {
						t.Fatalf("of %d numbers %d were looked at for %d", n, got.looked, x)
					}
				}
			}
		}
	}
}

func TestAsManyAreLookedAtAsThereMayBeBelowAll(t *testing.T) {
	for n := range 1100 {
		list := rising(n, 50)
		if got := first(list, least); got != (answer{0, log(n + 1)}) {
			t.Errorf("First below all of %d numbers: %v", n, got)
		}
		if got := above(list, least); got != (answer{0, log(n + 1)}) {
			t.Errorf("Above below all of %d numbers: %v", n, got)
		}
	}
}

func TestOfOneLessThanAPowerOfTwoAsManyAreLookedAtWhateverIsAsked(t *testing.T) {
	for times := range 12 {
		list := rising(1<<times-1, 100)
		for x := int64(-60); x <= 60; x++ {
			if a, b := first(list, x).looked, above(list, x).looked; a != times || b != times {
				t.Fatalf("of %d numbers %d and %d were looked at for %d", len(list), a, b, x)
			}
		}
	}
}

// R3

func TestNoListThatIsGivenIsChanged(t *testing.T) {
	all := mixed(64, 5)
	list, before := all[:40], slices.Clone(all)
	for x := int64(-4); x <= 4; x++ {
		rank.First(list, x)
		rank.Above(list, x)
	}
	if !slices.Equal(all, before) {
		t.Error("First or Above changes its list, or the room behind it")
	}
	rank.Squeeze(list)
	rank.Squeeze(all[:0])
	if !slices.Equal(all, before) {
		t.Error("Squeeze changes its list, or the room behind it")
	}
}

func TestWhatIsSqueezedIsInMemoryOfItsOwn(t *testing.T) {
	for _, list := range [][]int64{{1, 2, 3}, {3, 3, 1}, {5}, {2, 2, 2}, mixed(50, 7), rising(50, 1000)} {
		before := slices.Clone(list)
		one, other := rank.Squeeze(list), rank.Squeeze(list)
		kept := slices.Clone(other)
		spoil(one)
		if !slices.Equal(list, before) || !slices.Equal(other, kept) {
			t.Errorf("what is squeezed of %v shares memory", before)
		}
		spoil(list)
		if !slices.Equal(other, kept) {
			t.Errorf("what is squeezed of %v is changed with it", before)
		}
	}
}

// spoil writes over a list and the room behind it.
func spoil(l []int64) {
	l = l[:cap(l)]
	for i := range l {
		l[i] = 77
	}
}

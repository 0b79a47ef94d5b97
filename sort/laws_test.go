package sort_test

import (
	"slices"
	"testing"

	"gridiron/api"
	"gridiron/sort"
)

// P3.4

// log is how often 1 must be doubled to be n at least.
func log(n int) int {
	times := 0
	for one := 1; one < n; one *= 2 {
		times++
	}
	return times
}

// inOrder fails unless all places of l's keys are there, each once, the keys rise by them, and those that are the same keep their order.
func inOrder(t *testing.T, l []api.Key, at []int) {
	t.Helper()
	if len(at) != len(l) {
		t.Fatalf("%d places of %d keys", len(at), len(l))
	}
	there := make([]int, len(l))
	for i, p := range at {
		if p < 0 || p >= len(l) || there[p] > 0 {
			t.Fatalf("place %d is there again, or is none, of %d keys", p, len(l))
		}
		there[p]++
		if i == 0 {
			continue
		}
		switch ahead := at[i-1]; stands(l[ahead], l[p]) {
		case 1:
			t.Fatalf("%v comes ahead of %v", l[ahead], l[p])
		case 0:
			if ahead > p {
				t.Fatalf("%v of place %d comes ahead of that of place %d", l[p], ahead, p)
			}
		}
	}
}

func TestWhatComesOutOfOrderIsInOrder(t *testing.T) {
	for _, n := range []int{0, 1, 2, 3, 31, 32, 33, 1000, 1023, 1024, 1025, 100000} {
		for _, unlike := range []int{1, 3, 50, 1 << 20} {
			list := mixed(n, unlike)
			at, written, errno := sort.Order(list)
			if errno != api.OK {
				t.Fatalf("Order of %d keys: %d", n, errno)
			}
			inOrder(t, list, at)
			if written > n*log(n) || n <= 1 && written != 0 {
				t.Errorf("of %d keys %d were written", n, written)
			}
		}
	}
}

func TestOfPowersOfTwoAllAreWrittenAsOftenAsTheyAreHalved(t *testing.T) {
	for times := range 12 {
		n := 1 << times
		if _, written, _ := sort.Order(mixed(n, 9)); written != n*times {
			t.Errorf("of %d keys %d were written, not %d", n, written, n*times)
		}
	}
}

func TestWhatComesOutOfMergeIsInOrder(t *testing.T) {
	for _, n := range []int{0, 1, 2, 77, 1000} {
		for _, m := range []int{0, 1, 3, 500, 4096} {
			a, b := mixed(n, 20), mixed(m, 30)
			slices.SortFunc(a, stands)
			slices.SortFunc(b, stands)
			at, written, errno := sort.Merge(a, b)
			if errno != api.OK || written != n+m {
				t.Fatalf("Merge of %d and %d keys: %d written, %d", n, m, written, errno)
			}
			inOrder(t, slices.Concat(a, b), at)
		}
	}
}

func TestMergeOfHalvesInOrderIsOrder(t *testing.T) {
	for n := range 40 {
		list := mixed(n, 4)
		halves := [2][]api.Key{list[:n/2], list[n/2:]}
		count := 0
		for i, half := range halves {
			at, written, _ := sort.Order(half)
			count += written
			halves[i] = picked(half, at)
		}
		at, written, _ := sort.Merge(halves[0], halves[1])
		whole, all, _ := sort.Order(list)
		if n > 1 && all != count+written {
			t.Errorf("%d keys: %d written, by halves %d", n, all, count+written)
		}
		if !slices.Equal(picked(list, whole), picked(slices.Concat(halves[0], halves[1]), at)) {
			t.Errorf("%v: not what its halves tell", list)
		}
	}
}

// picked are l's keys in the order of the places.
func picked(l []api.Key, at []int) []api.Key {
	var list []api.Key
	for _, p := range at {
		list = append(list, l[p])
	}
	return list
}

// R3

func TestNoListThatIsGivenIsChanged(t *testing.T) {
	all := mixed(64, 5)
	list, before := all[:40], slices.Clone(all)
	sort.Order(list)
	if !slices.Equal(all, before) {
		t.Error("Order changes its list, or the room behind it")
	}
	slices.SortFunc(all[:20], stands)
	slices.SortFunc(all[20:40], stands)
	before = slices.Clone(all)
	if _, _, errno := sort.Merge(all[:20], all[20:40]); errno != api.OK {
		t.Fatal(errno)
	}
	sort.Merge(all[20:64], all[:20])
	if !slices.Equal(all, before) {
		t.Error("Merge changes its lists, or the room behind them")
	}
	numbers := []uint32{4, 4, 1, 9, 1, 8, 0, 7}
	sort.Once(numbers[:5])
	if !slices.Equal(numbers, []uint32{4, 4, 1, 9, 1, 8, 0, 7}) {
		t.Error("Once changes its list, or the room behind it")
	}
}

func TestWhatIsToldIsNew(t *testing.T) {
	list := mixed(9, 3)
	one, _, _ := sort.Order(list)
	other, _, _ := sort.Order(list)
	kept := slices.Clone(other)
	spoil(one)
	if again, _, _ := sort.Order(list); !slices.Equal(other, kept) || !slices.Equal(again, kept) {
		t.Error("two answers of Order share memory")
	}
	slices.SortFunc(list, stands)
	one, _, _ = sort.Merge(list[:4], list[4:])
	other, _, _ = sort.Merge(list[:4], list[4:])
	kept = slices.Clone(other)
	spoil(one)
	if again, _, _ := sort.Merge(list[:4], list[4:]); !slices.Equal(other, kept) || !slices.Equal(again, kept) {
		t.Error("two answers of Merge share memory")
	}
}

func TestWhatOnceTellsIsNew(t *testing.T) {
	for _, list := range [][]uint32{{1, 2, 3}, {3, 3, 1}, {5}} {
		before := slices.Clone(list)
		one, other := sort.Once(list), sort.Once(list)
		kept := slices.Clone(other)
		spoil(one)
		if !slices.Equal(list, before) || !slices.Equal(other, kept) {
			t.Errorf("what Once tells of %v shares memory", before)
		}
	}
}

// spoil writes over a list and the room behind it.
func spoil[N int | uint32](l []N) {
	l = l[:cap(l)]
	for i := range l {
		l[i] = 77
	}
}

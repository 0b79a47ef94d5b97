package sort_test

import (
	"math"
	"slices"
	"testing"

	"gridiron/api"
	"gridiron/sort"
)

const (
	least    = math.MinInt64
	greatest = math.MaxInt64
	last     = math.MaxUint32
)

// keys are a list of pairs: where, and the ID.
func keys(pairs ...int64) []api.Key {
	var list []api.Key
	for i := 0; i+1 < len(pairs); i += 2 {
		list = append(list, api.Key{At: pairs[i], ID: uint32(pairs[i+1])})
	}
	return list
}

// mixed are n keys by a rule that goes round, many of them the same if few are unlike.
func mixed(n, unlike int) []api.Key {
	list := make([]api.Key, n)
	turn := uint64(n)*2654435761 + uint64(unlike)
	for i := range list {
		turn = turn*6364136223846793005 + 1442695040888963407
		word := int(turn >> 33)
		list[i] = api.Key{At: int64(word%unlike) - int64(unlike/2), ID: uint32(word / unlike % unlike)}
	}
	return list
}

// stands tells where k stands to j, by the words of the chapter: At counts, and of the same At the ID.
func stands(k, j api.Key) int {
	switch {
	case k.At < j.At:
		return -1
	case k.At > j.At:
		return 1
	case k.ID < j.ID:
		return -1
	case k.ID > j.ID:
		return 1
	}
	return 0
}

// byHand does what the chapter says of putting in order, with lists of its own for each half: the places, and how many keys were written.
func byHand(l []api.Key, at []int) ([]int, int) {
	if len(at) < 2 {
		return at, 0
	}
	one, n := byHand(l, at[:len(at)/2])
	other, m := byHand(l, at[len(at)/2:])
	var out []int
	for len(one)+len(other) > 0 {
		if len(one) == 0 || len(other) > 0 && stands(l[other[0]], l[one[0]]) < 0 {
			out, other = append(out, other[0]), other[1:]
		} else {
			out, one = append(out, one[0]), one[1:]
		}
	}
	return out, n + m + len(out)
}

// upTo are the numbers from 0 on, below n.
func upTo(n int) []int {
	var list []int
	for i := range n {
		list = append(list, i)
	}
	return list
}

// P3.1

func TestOrder(t *testing.T) {
	cases := []struct {
		name    string
		list    []api.Key
		want    []int
		written int
	}{
		{"the chapter's", keys(5, 1, 3, 2, 5, 0), []int{1, 2, 0}, 5},
		{"none", nil, nil, 0},
		{"an empty one", []api.Key{}, nil, 0},
		{"one", keys(7, 7), []int{0}, 0},
		{"two that rise", keys(1, 0, 2, 0), []int{0, 1}, 2},
		{"two that fall", keys(2, 0, 1, 0), []int{1, 0}, 2},
		{"two that are the same", keys(2, 3, 2, 3), []int{0, 1}, 2},
		{"the ID counts, where At is the same", keys(2, 3, 2, 1, 2, 2), []int{1, 2, 0}, 5},
		{"At counts ahead of the ID", keys(2, 0, 1, 9), []int{1, 0}, 2},
		{"three, of which the lesser half comes first", keys(3, 0, 2, 0, 1, 0), []int{2, 1, 0}, 5},
		{"four", keys(4, 0, 3, 0, 2, 0, 1, 0), []int{3, 2, 1, 0}, 8},
		{"five", keys(1, 0, 5, 0, 2, 0, 4, 0, 3, 0), []int{0, 2, 4, 3, 1}, 12},
		{"seven", keys(7, 0, 6, 0, 5, 0, 4, 0, 3, 0, 2, 0, 1, 0), []int{6, 5, 4, 3, 2, 1, 0}, 20},
		{"all the same", keys(1, 1, 1, 1, 1, 1, 1, 1, 1, 1), []int{0, 1, 2, 3, 4}, 12},
		{"least and greatest", keys(greatest, 0, least, 0, 0, 0, -1, 0), []int{1, 3, 2, 0}, 8},
		{"IDs of all 32 bits", keys(0, last, 0, 0, 0, 1<<31, 0, 1<<31-1), []int{1, 3, 2, 0}, 8},
	}
	for _, c := range cases {
		got, written, errno := sort.Order(c.list)
		if !slices.Equal(got, c.want) || written != c.written || errno != api.OK {
			t.Errorf("%s: %v, %d, %d; not %v, %d", c.name, got, written, errno, c.want, c.written)
		}
	}
}

func TestOrderWritesWhatTheChapterSays(t *testing.T) {
	for n := range 140 {
		for _, unlike := range []int{1, 2, 5, 1000} {
			list := mixed(n, unlike)
			want, count := byHand(list, upTo(n))
			got, written, errno := sort.Order(list)
			if !slices.Equal(got, want) || written != count || errno != api.OK {
				t.Fatalf("%v: %v, %d, %d; not %v, %d", list, got, written, errno, want, count)
			}
		}
	}
}

func TestOrderOfAllListsOfFew(t *testing.T) {
	kinds := keys(0, 0, 0, 1, 1, 0)
	for n := range 7 {
		for code := range int(math.Pow(3, float64(n))) {
			var list []api.Key
			for rest, i := code, 0; i < n; i++ {
				list = append(list, kinds[rest%3])
				rest /= 3
			}
			want, count := byHand(list, upTo(n))
			if got, written, errno := sort.Order(list); !slices.Equal(got, want) || written != count || errno != api.OK {
				t.Fatalf("%v: %v, %d, %d; not %v, %d", list, got, written, errno, want, count)
			}
		}
	}
}

// P3.2

func TestMerge(t *testing.T) {
	cases := []struct {
		name string
		a, b []api.Key
		want []int
	}{
		{"the chapter's", keys(1, 1, 4, 1), keys(1, 1, 2, 9), []int{0, 2, 3, 1}},
		{"none", nil, nil, nil},
		{"only the first", keys(1, 0, 1, 0, 2, 0), nil, []int{0, 1, 2}},
		{"only the second", nil, keys(1, 0, 1, 0, 2, 0), []int{0, 1, 2}},
		{"an empty one", []api.Key{}, keys(1, 0), []int{0}},
		{"all of the first ahead", keys(1, 0, 2, 0), keys(3, 0, 4, 0), []int{0, 1, 2, 3}},
		{"all of the second ahead", keys(3, 0, 4, 0), keys(1, 0, 2, 0), []int{2, 3, 0, 1}},
		{"one by one", keys(1, 0, 3, 0, 5, 0), keys(2, 0, 4, 0, 6, 0), []int{0, 3, 1, 4, 2, 5}},
		{"the first goes ahead of what is the same", keys(1, 1, 1, 1), keys(1, 1, 1, 1), []int{0, 1, 2, 3}},
		{"the same among others", keys(0, 0, 1, 1, 2, 2), keys(1, 1, 1, 1, 2, 2), []int{0, 1, 3, 4, 2, 5}},
		{"the ID counts, where At is the same", keys(1, 5), keys(1, 4, 1, 6), []int{1, 0, 2}},
		{"At counts ahead of the ID", keys(1, 9), keys(0, 10, 2, 0), []int{1, 0, 2}},
		{"least and greatest", keys(least, last, greatest, 0), keys(least, 0, greatest, last), []int{2, 0, 1, 3}},
		{"unlike lengths", keys(2, 0), keys(1, 0, 2, 0, 3, 0, 4, 0), []int{1, 0, 2, 3, 4}},
	}
	for _, c := range cases {
		got, written, errno := sort.Merge(c.a, c.b)
		if !slices.Equal(got, c.want) || written != len(c.want) || errno != api.OK {
			t.Errorf("%s: %v, %d, %d; not %v", c.name, got, written, errno, c.want)
		}
	}
}

func TestMergeOfListsThatDoNotRise(t *testing.T) {
	cases := []struct {
		name string
		a, b []api.Key
	}{
		{"the chapter's", keys(2, 1, 1, 1), nil},
		{"the second", nil, keys(2, 1, 1, 1)},
		{"the second, beside one that rises", keys(0, 0, 1, 0), keys(2, 1, 1, 1)},
		{"the first, beside one that rises", keys(2, 1, 1, 1), keys(0, 0, 1, 0)},
		{"both", keys(2, 1, 1, 1), keys(4, 1, 3, 1)},
		{"by the ID alone", keys(2, 1, 2, 0), keys(3, 0)},
		{"the second by the ID alone", keys(3, 0), keys(2, last, 2, 0)},
		{"at the end", keys(1, 0, 2, 0, 3, 0, 2, 9), keys(3, 0)},
		{"the second at its end", keys(3, 0), keys(1, 0, 2, 0, 3, 0, 2, 9)},
		{"from the greatest to the least", keys(greatest, 0, least, 0), nil},
	}
	for _, c := range cases {
		if got, written, errno := sort.Merge(c.a, c.b); len(got) != 0 || written != 0 || errno != api.ErrArg {
			t.Errorf("%s: %v, %d, %d; not ErrArg alone", c.name, got, written, errno)
		}
	}
}

func TestMergeWritesWhatTheChapterSays(t *testing.T) {
	for n := range 24 {
		for m := range 24 {
			a, b := mixed(n, 4), mixed(m, 5)
			slices.SortFunc(a, stands)
			slices.SortFunc(b, stands)
			both := slices.Concat(a, b)
			want := upTo(n + m)
			slices.SortStableFunc(want, func(p, q int) int { return stands(both[p], both[q]) })
			got, written, errno := sort.Merge(a, b)
			if !slices.Equal(got, want) || written != n+m || errno != api.OK {
				t.Fatalf("%v and %v: %v, %d, %d; not %v", a, b, got, written, errno, want)
			}
		}
	}
}

// P3.3

func TestOnce(t *testing.T) {
	cases := []struct {
		name       string
		list, want []uint32
	}{
		{"the chapter's", []uint32{3, 1, 3}, []uint32{1, 3}},
		{"none", nil, nil},
		{"an empty one", []uint32{}, nil},
		{"one", []uint32{0}, []uint32{0}},
		{"the same again and again", []uint32{5, 5, 5, 5}, []uint32{5}},
		{"all unlike, falling", []uint32{9, 7, 5, 3, 1}, []uint32{1, 3, 5, 7, 9}},
		{"all unlike, rising", []uint32{1, 3, 5}, []uint32{1, 3, 5}},
		{"some more than once", []uint32{2, 9, 2, 0, 9, 2, 1}, []uint32{0, 1, 2, 9}},
		{"least and greatest", []uint32{last, 0, 1 << 31, last, 1<<31 - 1, 0}, []uint32{0, 1<<31 - 1, 1 << 31, last}},
	}
	for _, c := range cases {
		if got := sort.Once(c.list); !slices.Equal(got, c.want) {
			t.Errorf("%s: %v, not %v", c.name, got, c.want)
		}
	}
}

func TestOnceIsWhatACountTells(t *testing.T) {
	for n := range 60 {
		var list []uint32
		for i, k := range mixed(n, 7) {
			list = append(list, k.ID*uint32(1+i%2))
		}
		var want []uint32
		for x := range uint32(14) {
			if slices.Contains(list, x) {
				want = append(want, x)
			}
		}
		if got := sort.Once(list); !slices.Equal(got, want) {
			t.Fatalf("%v: %v, not %v", list, got, want)
		}
	}
}

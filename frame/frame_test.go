package frame_test

import (
	"math"
	"slices"
	"sync"
	"testing"

	"gridiron/api"
	"gridiron/frame"
)

// of is a frame of n leaves.
func of(t *testing.T, n int) *frame.Frame {
	t.Helper()
	f, errno := frame.New(n)
	if f == nil || errno != api.OK {
		t.Fatalf("New of %d: %v, %d", n, f, errno)
	}
	return f
}

// leaf is the leaf of that number.
func leaf(number int) api.Node {
	return api.Node{Kind: api.Leaf, L: -1, R: -1, From: number, To: number + 1, Item: number}
}

// inner is the inner node with the kids l and r, over the leaves from, ahead of to.
func inner(l, r, from, to int) api.Node {
	return api.Node{Kind: api.Inner, L: l, R: r, From: from, To: to}
}

// nodesByHand are the nodes over leaves, put behind list as the chapter says.
func nodesByHand(list []api.Node, leaves []int) []api.Node {
	n := len(leaves)
	if n == 0 {
		return list
	}
	if n == 1 {
		return append(list, leaf(leaves[0]))
	}
	half := n / 2
	if n%2 == 1 {
		half++
	}
	list = nodesByHand(list, leaves[:half])
	l := len(list) - 1
	list = nodesByHand(list, leaves[half:])
	r := len(list) - 1
	return append(list, inner(l, r, leaves[0], leaves[n-1]+1))
}

// allByHand are the nodes of a frame of n leaves.
func allByHand(n int) []api.Node {
	leaves := make([]int, n)
	for i := range leaves {
		leaves[i] = i
	}
	return nodesByHand(nil, leaves)
}

// goByHand goes for a range over the nodes of a frame, from the root on, and writes down each place that is entered, and each that is a canonical node's.
func goByHand(nodes []api.Node, from, to int) (canonical, entered []int) {
	if from == to {
		return nil, nil
	}
	var enter func(at int)
	enter = func(at int) {
		entered = append(entered, at)
		in, n := 0, nodes[at]
		for number := n.From; number < n.To; number++ {
			if from <= number && number < to {
				in++
			}
		}
		switch in {
		case 0:
		case n.To - n.From:
			canonical = append(canonical, at)
		default:
			enter(n.L)
			enter(n.R)
		}
	}
	enter(len(nodes) - 1)
	return canonical, entered
}

// pathByHand are the places of all nodes over a leaf; each stands behind those below it.
func pathByHand(nodes []api.Node, number int) []int {
	var places []int
	for i, n := range slices.Backward(nodes) {
		if n.From <= number && number < n.To {
			places = append(places, i)
		}
	}
	return places
}

// canon fails unless Canon answers just that.
func canon(t *testing.T, f *frame.Frame, from, to int, places []int, entered int, want api.Errno) {
	t.Helper()
	got, count, errno := f.Canon(from, to)
	if !slices.Equal(got, places) || count != entered || errno != want {
		t.Fatalf("Canon of %d, %d of %d leaves: %v, %d, %d; not %v, %d, %d", from, to, f.Leaves(), got, count, errno, places, entered, want)
	}
}

// path fails unless Path answers just that.
func path(t *testing.T, f *frame.Frame, number int, places []int, want api.Errno) {
	t.Helper()
	if got, errno := f.Path(number); !slices.Equal(got, places) || errno != want {
		t.Fatalf("Path of %d of %d leaves: %v, %d; not %v, %d", number, f.Leaves(), got, errno, places, want)
	}
}

// holds fails unless f is a frame of n leaves, whichever way it is asked.
func holds(t *testing.T, f *frame.Frame, n int) {
	t.Helper()
	nodes := allByHand(n)
	if f.Leaves() != n || f.Root() != len(nodes)-1 {
		t.Fatalf("%d leaves and the root %d, not %d and %d", f.Leaves(), f.Root(), n, len(nodes)-1)
	}
	if got := f.Nodes(); !slices.Equal(got, nodes) {
		t.Fatalf("the nodes of %d leaves: %+v, not %+v", n, got, nodes)
	}
	for number := range n {
		path(t, f, number, pathByHand(nodes, number), api.OK)
	}
	for from := range n + 1 {
		for to := from; to <= n; to++ {
			canonical, entered := goByHand(nodes, from, to)
			canon(t, f, from, to, canonical, len(entered), api.OK)
		}
	}
}

// The chapter's examples.

func TestTheChaptersExamples(t *testing.T) {
	f := of(t, 3)
	if got, want := f.Nodes(), []api.Node{leaf(0), leaf(1), inner(0, 1, 0, 2), leaf(2), inner(2, 3, 0, 3)}; !slices.Equal(got, want) {
		t.Errorf("Nodes: %+v, not %+v", got, want)
	}
	if f.Root() != 4 {
		t.Errorf("Root: %d, not 4", f.Root())
	}
	canon(t, f, 0, 2, []int{2}, 3, api.OK)
	canon(t, f, 1, 3, []int{1, 3}, 5, api.OK)
	canon(t, f, 0, 3, []int{4}, 1, api.OK)
	canon(t, f, 2, 2, nil, 0, api.OK)
	path(t, f, 1, []int{4, 2, 1}, api.OK)
	none := of(t, 0)
	if none.Root() != -1 {
		t.Errorf("Root of no leaves: %d, not -1", none.Root())
	}
	canon(t, none, 0, 0, nil, 0, api.OK)
	canon(t, none, 0, 1, nil, 0, api.ErrArg)
}

// P6.1

func TestNew(t *testing.T) {
	cases := []struct {
		n    int
		root int
		want api.Errno
	}{
		{0, -1, api.OK}, {1, 0, api.OK}, {2, 2, api.OK}, {3, 4, api.OK}, {1 << 20, 1<<21 - 2, api.OK},
		{1<<34 - 1, 1<<35 - 4, api.OK}, {1 << 34, 1<<35 - 2, api.OK},
		{1<<34 + 1, 0, api.ErrArg}, {1 << 36, 0, api.ErrArg}, {math.MaxInt, 0, api.ErrArg},
		{-1, 0, api.ErrArg}, {-2, 0, api.ErrArg}, {-1 << 34, 0, api.ErrArg}, {math.MinInt, 0, api.ErrArg},
	}
	for _, c := range cases {
		f, errno := frame.New(c.n)
		if errno != c.want || (f != nil) != (c.want == api.OK) {
			t.Errorf("New of %d: %v, %d; not %d", c.n, f, errno, c.want)
			continue
		}
		if f != nil && (f.Leaves() != c.n || f.Root() != c.root) {
			t.Errorf("New of %d: %d leaves and the root %d, not %d", c.n, f.Leaves(), f.Root(), c.root)
		}
	}
}

func TestNodes(t *testing.T) {
	cases := []struct {
		name string
		n    int
		want []api.Node
	}{
		{"no leaves", 0, nil},
		{"one leaf", 1, []api.Node{leaf(0)}},
		{"an even number", 2, []api.Node{leaf(0), leaf(1), inner(0, 1, 0, 2)}},
		{"an even number of halves that are even", 4, []api.Node{
			leaf(0), leaf(1), inner(0, 1, 0, 2), leaf(2), leaf(3), inner(3, 4, 2, 4), inner(2, 5, 0, 4),
		}},
		{"an odd number, the greater half odd", 5, []api.Node{
			leaf(0), leaf(1), inner(0, 1, 0, 2), leaf(2), inner(2, 3, 0, 3),
			leaf(3), leaf(4), inner(5, 6, 3, 5), inner(4, 7, 0, 5),
		}},
		{"an even number of halves that are odd", 6, []api.Node{
			leaf(0), leaf(1), inner(0, 1, 0, 2), leaf(2), inner(2, 3, 0, 3),
			leaf(3), leaf(4), inner(5, 6, 3, 5), leaf(5), inner(7, 8, 3, 6), inner(4, 9, 0, 6),
		}},
		{"an odd number, the greater half even", 7, []api.Node{
			leaf(0), leaf(1), inner(0, 1, 0, 2), leaf(2), leaf(3), inner(3, 4, 2, 4), inner(2, 5, 0, 4),
			leaf(4), leaf(5), inner(7, 8, 4, 6), leaf(6), inner(9, 10, 4, 7), inner(6, 11, 0, 7),
		}},
	}
	for _, c := range cases {
		if got := of(t, c.n).Nodes(); !slices.Equal(got, c.want) {
			t.Errorf("%s: %+v, not %+v", c.name, got, c.want)
		}
	}
}

func TestNodesOfManyLeavesAreThoseByHand(t *testing.T) {
	for _, n := range []int{1000, 1 << 16, 1<<16 + 1, 99999} {
		if got := of(t, n).Nodes(); !slices.Equal(got, allByHand(n)) {
			t.Errorf("the nodes of %d leaves are not those by hand", n)
		}
	}
}

func TestNodesAreMadeWhenTheyAreFirstAskedFor(t *testing.T) {
	const many = 1 << 16
	made := testing.AllocsPerRun(5, func() {
		f, _ := frame.New(many)
		f.Leaves()
		f.Root()
	})
	if made > 1 {
		t.Errorf("a frame that is not asked for its nodes takes memory %v times", made)
	}
}

func TestNodesAreMadeOnce(t *testing.T) {
	f := of(t, 1<<10)
	f.Nodes()
	// What is told is new each time, and nothing else is.
	if made := testing.AllocsPerRun(5, func() { f.Nodes() }); made > 1 {
		t.Errorf("nodes that were asked for take memory %v times when they are asked for again", made)
	}
}

func TestNobodyElseKeepsTheNodesFromBeingMade(t *testing.T) {
	f := of(t, 3)
	if other, ok := any(f).(interface{ Do(func()) }); ok {
		other.Do(func() {})
	}
	holds(t, f, 3)
}

func TestManyMayAskForTheNodesAtOnce(t *testing.T) {
	const n = 1000
	f, want := of(t, n), allByHand(n)
	var all sync.WaitGroup
	for range 8 {
		all.Go(func() {
			if !slices.Equal(f.Nodes(), want) {
				t.Error("the nodes are not those by hand")
			}
		})
	}
	all.Wait()
}

// P6.2 and P6.3

func TestFramesOfFewLeavesHoldWhatTheChapterSays(t *testing.T) {
	for n := range 42 {
		holds(t, of(t, n), n)
	}
	for _, n := range []int{63, 64, 65, 100} {
		holds(t, of(t, n), n)
	}
}

func TestCanon(t *testing.T) {
	// 0 1 (2: 0 1) 3 (4: 2 3) 5 6 (7: 5 6) 8 (9: 7 8) (10: 4 9)
	cases := []struct {
		name     string
		from, to int
		want     []int
		entered  int
	}{
		{"no leaves, at the beginning", 0, 0, nil, 0},
		{"no leaves, where a node begins", 3, 3, nil, 0},
		{"no leaves, at the end", 6, 6, nil, 0},
		{"all leaves", 0, 6, []int{10}, 1},
		{"the first leaf", 0, 1, []int{0}, 7},
		{"a leaf in the middle", 2, 3, []int{3}, 5},
		{"the last leaf", 5, 6, []int{8}, 5},
		{"one half", 0, 3, []int{4}, 3},
		{"the other half", 3, 6, []int{9}, 3},
		{"a leaf more than one half", 0, 4, []int{4, 5}, 7},
		{"a leaf less than one half", 0, 2, []int{2}, 5},
		{"one half, but its first leaf", 1, 3, []int{1, 3}, 7},
		{"all but the first leaf", 1, 6, []int{1, 3, 9}, 7},
		{"all but the last leaf", 0, 5, []int{4, 7}, 5},
		{"all but both", 1, 5, []int{1, 3, 7}, 9},
		{"some of both halves", 2, 4, []int{3, 5}, 9},
	}
	f := of(t, 6)
	for _, c := range cases {
		t.Run(c.name, func(t *testing.T) {
			canon(t, f, c.from, c.to, c.want, c.entered, api.OK)
		})
	}
}

func TestRangesThatThereAreNot(t *testing.T) {
	for _, n := range []int{0, 1, 2, 5, 8, 1 << 34} {
		f := of(t, n)
		for _, x := range [][2]int{
			{-1, 0}, {-1, -1}, {-1, n}, {-2, -1}, {0, n + 1}, {n, n + 1}, {n + 1, n + 1}, {n + 1, n + 2}, {-1, n + 1},
			{1, 0}, {n + 1, n}, {n, -1}, {0, -1},
			{math.MinInt, 0}, {0, math.MaxInt}, {math.MinInt, math.MaxInt}, {math.MaxInt, math.MinInt}, {math.MaxInt, math.MaxInt}, {math.MinInt, math.MinInt},
		} {
			canon(t, f, x[0], x[1], nil, 0, api.ErrArg)
		}
		canon(t, f, n, n, nil, 0, api.OK)
	}
	canon(t, of(t, 5), 3, 2, nil, 0, api.ErrArg)
}

func TestLeavesThatThereAreNot(t *testing.T) {
	for _, n := range []int{0, 1, 2, 5, 8, 1 << 34} {
		f := of(t, n)
		for _, number := range []int{-1, -2, n, n + 1, math.MaxInt, math.MinInt} {
			path(t, f, number, nil, api.ErrArg)
		}
	}
}

func TestPath(t *testing.T) {
	f := of(t, 6)
	for number, want := range [][]int{{10, 4, 2, 0}, {10, 4, 2, 1}, {10, 4, 3}, {10, 9, 7, 5}, {10, 9, 7, 6}, {10, 9, 8}} {
		path(t, f, number, want, api.OK)
	}
	path(t, of(t, 1), 0, []int{0}, api.OK)
}

// As many leaves as there may be, and the nodes never made.

// ones tells how many binary digits of n are 1.
func ones(n int) int {
	count := 0
	for ; n > 0; n &= n - 1 {
		count++
	}
	return count
}

// block is the place of the node over 2^high leaves from a multiple of that on, in a frame of a power of two leaves: ahead of it stand its own nodes, and those of blocks of leaves, each of one node less than twice its leaves, which add up as binary digits do.
func block(from, high int) int {
	return 2*from - ones(from) + 1<<(high+1) - 2
}

func TestTheGreatestFrameAnswersWithoutItsNodes(t *testing.T) {
	const high, n = 34, 1 << 34
	f := of(t, n)
	for _, number := range []int{0, 1, 2, n/2 - 1, n / 2, n/2 + 1, n/3 + 7, n - 2, n - 1} {
		var want []int
		for up := high; up >= 0; up-- {
			want = append(want, block(number>>up<<up, up))
		}
		path(t, f, number, want, api.OK)
		canon(t, f, number, number+1, []int{block(number, 0)}, 2*high+1, api.OK)
	}
	canon(t, f, 0, n, []int{block(0, high)}, 1, api.OK)
	canon(t, f, n/2, n, []int{block(n/2, high-1)}, 3, api.OK)
	canon(t, f, n/4, n/2+n/4, []int{block(n/4, high-2), block(n/2, high-2)}, 7, api.OK)
	var want []int
	for up := range high - 1 {
		want = append(want, block(1<<up, up))
	}
	for up := high - 2; up >= 0; up-- {
		want = append(want, block(n-2<<up, up))
	}
	canon(t, f, 1, n-1, want, 4*high-1, api.OK)
}

// No frame.

// copied is a copy of what at points to.
func copied[T any](at *T) *T {
	same := *at
	return &same
}

func TestOfNoFrameNothingIsTold(t *testing.T) {
	fresh, asked, none := of(t, 5), of(t, 5), of(t, 0)
	asked.Nodes()
	refused, _ := frame.New(-1)
	for name, f := range map[string]*frame.Frame{
		"nil": nil, "one that was not made": {}, "new": new(frame.Frame), "refused": refused,
		"a copy": copied(fresh), "a copy with nodes": copied(asked), "a copy without leaves": copied(none),
	} {
		if f.Leaves() != 0 || f.Root() != -1 || len(f.Nodes()) != 0 {
			t.Errorf("%s: %d leaves, the root %d, %v; not 0, -1, nothing", name, f.Leaves(), f.Root(), f.Nodes())
		}
		for _, x := range [][2]int{{0, 0}, {0, 1}, {1, 3}, {-1, 0}, {2, 1}, {0, 9}} {
			canon(t, f, x[0], x[1], nil, 0, api.ErrNil) // ahead of ErrArg
		}
		for _, number := range []int{-1, 0, 4, 5} {
			path(t, f, number, nil, api.ErrNil)
		}
	}
	holds(t, fresh, 5)
	holds(t, asked, 5)
	holds(t, none, 0)
}

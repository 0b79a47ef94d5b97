package frame_test

import (
	"slices"
	"testing"

	"gridiron/api"
	"gridiron/frame"
	"gridiron/pool"
	"gridiron/rank"
)

// P6.4

// sizes are numbers of leaves: few, and those about powers of two.
func sizes() []int {
	var all []int
	for n := range 40 {
		all = append(all, n)
	}
	for up := 6; up < 12; up++ {
		all = append(all, 1<<up-1, 1<<up, 1<<up+1, 3<<up)
	}
	return all
}

func TestNodesAreRightAndTheRootIsAsHighAsLog(t *testing.T) {
	for _, n := range sizes() {
		nodes := of(t, n).Nodes()
		if !pool.Right(nodes) {
			t.Fatalf("the nodes of %d leaves are not right", n)
		}
		if n == 0 {
			continue
		}
		if len(nodes) != 2*n-1 {
			t.Fatalf("%d nodes of %d leaves", len(nodes), n)
		}
		high, errno := pool.Height(nodes, of(t, n).Root())
		if want := rank.Log(n); high != want || errno != api.OK {
			t.Fatalf("the root of %d leaves is %d high, %d; not %d", n, high, errno, want)
		}
	}
}

// ranges are all ranges of few leaves, of many some, at both ends and about the middle.
func ranges(n int) [][2]int {
	var ends []int
	for end := range n + 1 {
		if n < 40 || end < 3 || end > n-3 || end%(n/7) < 2 || end >= n/2-2 && end <= n/2+2 {
			ends = append(ends, end)
		}
	}
	var all [][2]int
	for i, from := range ends {
		for _, to := range ends[i:] {
			all = append(all, [2]int{from, to})
		}
	}
	return all
}

// parents are the places of the nodes' parents, -1 of the root.
func parents(nodes []api.Node) []int {
	all := make([]int, len(nodes))
	for i, n := range nodes {
		all[i] = -1
		if n.Kind == api.Inner {
			all[n.L], all[n.R] = i, i
		}
	}
	return all
}

func TestCanonicalNodesAreOverTheRangeOneBehindTheOther(t *testing.T) {
	for _, n := range sizes() {
		f := of(t, n)
		nodes := f.Nodes()
		parent := parents(nodes)
		for _, x := range ranges(n) {
			places, _, _ := f.Canon(x[0], x[1])
			at, kids := x[0], map[int]int{}
			for _, place := range places {
				if nodes[place].From != at {
					t.Fatalf("Canon of %v of %d leaves: %v leaves a gap at %d", x, n, places, at)
				}
				at = nodes[place].To
				kids[parent[place]]++
			}
			if at != x[1] {
				t.Fatalf("Canon of %v of %d leaves: %v ends at %d", x, n, places, at)
			}
			for place, count := range kids {
				if count > 1 {
					t.Fatalf("Canon of %v of %d leaves: %v has both kids of %d", x, n, places, place)
				}
			}
		}
	}
}

// few fails unless there are as few canonical nodes, and nodes that are entered, as the chapter says.
func few(t *testing.T, f *frame.Frame, from, to int) {
	t.Helper()
	high := rank.Log(f.Leaves())
	places, entered, errno := f.Canon(from, to)
	if errno != api.OK || len(places) > max(2*high, 1) || entered > 4*high+1 || entered < len(places) {
		t.Fatalf("Canon of %d, %d of %d leaves: %d nodes, %d entered, %d", from, to, f.Leaves(), len(places), entered, errno)
	}
	if !slices.IsSorted(places) {
		t.Fatalf("Canon of %d, %d of %d leaves: %v does not rise", from, to, f.Leaves(), places)
	}
}

// short fails unless the path of a leaf is as short as the chapter says.
func short(t *testing.T, f *frame.Frame, number int) {
	t.Helper()
	places, errno := f.Path(number)
	if errno != api.OK || len(places) > rank.Log(f.Leaves())+1 || places[0] != f.Root() {
		t.Fatalf("Path of %d of %d leaves: %v, %d", number, f.Leaves(), places, errno)
	}
}

func TestFewNodesAreEntered(t *testing.T) {
	for _, n := range sizes() {
		f := of(t, n)
		for _, x := range ranges(n) {
			few(t, f, x[0], x[1])
		}
		for number := range n {
			short(t, f, number)
		}
	}
}

func TestFewNodesOfManyLeavesAreEntered(t *testing.T) {
	for _, n := range []int{1<<31 - 1, 1<<31 + 1, 1<<33 + 1, 10000000019, 1<<34 - 1, 1 << 34} {
		f := of(t, n)
		for _, x := range [][2]int{{0, n}, {1, n - 1}, {0, 1}, {1, n}, {n/2 - 1, n/2 + 2}, {n / 3, n / 3 * 2}, {n / 7, n - n/9}} {
			few(t, f, x[0], x[1])
			short(t, f, x[0])
			short(t, f, x[1]-1)
		}
	}
}

func TestAPathGoesFromKidToKid(t *testing.T) {
	for _, n := range sizes() {
		f := of(t, n)
		nodes := f.Nodes()
		for number := range n {
			places, _ := f.Path(number)
			at := f.Root()
			for _, place := range places[1:] {
				if nodes[at].L != place && nodes[at].R != place {
					t.Fatalf("Path of %d of %d leaves: %d is no kid of %d", number, n, place, at)
				}
				at = place
			}
			if nodes[at] != leaf(number) {
				t.Fatalf("Path of %d of %d leaves ends at %+v", number, n, nodes[at])
			}
		}
	}
}

// R3

func TestWhatIsToldOfAFrameIsInMemoryOfItsOwn(t *testing.T) {
	for n := range 40 {
		f, want := of(t, n), allByHand(n)
		keptNodes, nodes := f.Nodes(), f.Nodes()
		spoil(nodes, api.Node{Kind: 77, L: 77, R: 77})
		for number := range n {
			kept, errno := f.Path(number)
			places, _ := f.Path(number)
			spoil(places, 77)
			if !slices.Equal(kept, pathByHand(want, number)) || errno != api.OK {
				t.Fatalf("two answers of Path of %d of %d leaves share memory", number, n)
			}
		}
		for _, x := range ranges(n) {
			kept, _, errno := f.Canon(x[0], x[1])
			places, _, _ := f.Canon(x[0], x[1])
			spoil(places, 77)
			canonical, _ := goByHand(want, x[0], x[1])
			if !slices.Equal(kept, canonical) || errno != api.OK {
				t.Fatalf("two answers of Canon of %v of %d leaves share memory", x, n)
			}
		}
		if !slices.Equal(keptNodes, want) {
			t.Fatalf("two answers of Nodes of %d leaves share memory", n)
		}
		holds(t, f, n)
	}
}

func TestWhatIsAskedDoesNotHangOnWhatWasAsked(t *testing.T) {
	for _, n := range []int{0, 1, 2, 7, 20} {
		f := of(t, n)
		for range 3 {
			f.Canon(-1, n)
			f.Path(n)
			holds(t, f, n)
		}
		// Asked for places ahead of nodes.
		f = of(t, n)
		f.Canon(0, n)
		f.Path(n - 1)
		holds(t, f, n)
	}
}

func TestFramesDoNotKnowOfOneAnother(t *testing.T) {
	one, other := of(t, 6), of(t, 9)
	spoil(one.Nodes(), api.Node{})
	holds(t, other, 9)
	holds(t, one, 6)
	holds(t, of(t, 6), 6)
}

// spoil writes over a list and the room behind it.
func spoil[T any](l []T, with T) {
	l = l[:cap(l)]
	for i := range l {
		l[i] = with
	}
}

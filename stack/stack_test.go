package stack_test

import (
	"math"
	"slices"
	"testing"

	"gridiron/api"
	"gridiron/frame"
	"gridiron/stack"
)

// leaf is a leaf from, ahead of to; its number is none that a walk tells.
func leaf(from, to int) api.Node {
	return api.Node{Kind: api.Leaf, L: -1, R: -1, From: from, To: to, Item: 1000}
}

// inner is an inner node with the kids l and r, over the leaves from, ahead of to.
func inner(l, r, from, to int) api.Node {
	return api.Node{Kind: api.Inner, L: l, R: r, From: from, To: to}
}

// framed are the nodes of a frame of n leaves.
func framed(t *testing.T, n int) []api.Node {
	t.Helper()
	f, errno := frame.New(n)
	if errno != api.OK {
		t.Fatalf("a frame of %d leaves: %d", n, errno)
	}
	return f.Nodes()
}

// all fails unless All answers just that.
func all(t *testing.T, l []api.Node, root int, places []int, want api.Errno) {
	t.Helper()
	if got, errno := stack.All(l, root); !slices.Equal(got, places) || errno != want {
		t.Fatalf("All from %d of %+v: %v, %d; not %v, %d", root, l, got, errno, places, want)
	}
}

// leaves fails unless Leaves answers just that.
func leaves(t *testing.T, l []api.Node, root, from, to int, told []int, entered int, want api.Errno) {
	t.Helper()
	if got, count, errno := stack.Leaves(l, root, from, to); !slices.Equal(got, told) || count != entered || errno != want {
		t.Fatalf("Leaves from %d of %+v, of %d to %d: %v, %d, %d; not %v, %d, %d", root, l, from, to, got, count, errno, told, entered, want)
	}
}

// refused fails unless All and Leaves answer that error alone.
func refused(t *testing.T, l []api.Node, root int, want api.Errno) {
	t.Helper()
	all(t, l, root, nil, want)
	for _, x := range [][2]int{{0, 0}, {0, 3}, {3, 0}, {-5, 5}, {math.MinInt, math.MaxInt}, {math.MaxInt, math.MinInt}} {
		leaves(t, l, root, x[0], x[1], nil, 0, want)
	}
}

// allByHand are the places that a walk from the node at root enters: it, those of its L, those of its R.
func allByHand(l []api.Node, root int) []int {
	places := []int{root}
	if l[root].Kind == api.Leaf {
		return places
	}
	for _, kid := range []int{l[root].L, l[root].R} {
		if kid != -1 {
			places = append(places, allByHand(l, kid)...)
		}
	}
	return places
}

// parents are the places of the nodes' parents, -1 of roots.
func parents(l []api.Node) []int {
	places := make([]int, len(l))
	for i, n := range l {
		places[i] = -1
		if n.Kind == api.Inner {
			for _, kid := range []int{n.L, n.R} {
				if kid != -1 {
					places[kid] = i
				}
			}
		}
	}
	return places
}

// ends tells whether a walk for the range enters nothing below n, nor tells n.
func ends(n api.Node, from, to int) bool {
	return !(n.To > from) || !(n.From < to)
}

// leavesByHand picks of all nodes below the one at root those over which there is none at which the walk for the range ends.
func leavesByHand(l []api.Node, root, from, to int) (told []int, entered int) {
	parent := parents(l)
	for _, at := range allByHand(l, root) {
		reached := true
		for above := at; above != root; {
			above = parent[above]
			reached = reached && !ends(l[above], from, to)
		}
		if !reached {
			continue
		}
		entered++
		if l[at].Kind == api.Leaf && !ends(l[at], from, to) {
			told = append(told, l[at].From)
		}
	}
	return told, entered
}

// asByHand fails unless walks from the node at root, and from there for the range, are those by hand.
func asByHand(t *testing.T, l []api.Node, root, from, to int) {
	t.Helper()
	all(t, l, root, allByHand(l, root), api.OK)
	told, entered := leavesByHand(l, root, from, to)
	leaves(t, l, root, from, to, told, entered, api.OK)
}

// The chapter's examples.

func TestTheChaptersExamples(t *testing.T) {
	l := framed(t, 3)
	all(t, l, 4, []int{4, 2, 0, 1, 3}, api.OK)
	all(t, l, 2, []int{2, 0, 1}, api.OK)
	all(t, l, 5, nil, api.ErrArg)
	leaves(t, l, 4, 1, 3, []int{1, 2}, 5, api.OK)
	leaves(t, l, 4, 0, 0, nil, 1, api.OK)
	leaves(t, l, 4, 2, 9, []int{2}, 3, api.OK)
}

// P7.1

// grove are right nodes of two trees that stand in one another, and a leaf by itself: 6 has the kids 4 and 3, 4 has 0 on its right alone, 3 has 1 on its left alone; 7 has the kids 5 and 2.
func grove() []api.Node {
	return []api.Node{
		leaf(4, 5), leaf(7, 8), leaf(2, 3),
		inner(1, -1, 7, 8), inner(-1, 0, 4, 5), leaf(1, 2),
		inner(4, 3, 4, 8), inner(5, 2, 1, 3), leaf(0, 1),
	}
}

func TestAll(t *testing.T) {
	cases := []struct {
		name string
		list []api.Node
		root int
		want []int
	}{
		{"a leaf alone", []api.Node{leaf(0, 1)}, 0, []int{0}},
		{"a leaf by itself", grove(), 8, []int{8}},
		{"a leaf that is a kid", grove(), 1, []int{1}},
		{"one kid, on the left", grove(), 3, []int{3, 1}},
		{"one kid, on the right", grove(), 4, []int{4, 0}},
		{"two kids", grove(), 7, []int{7, 5, 2}},
		{"two kids with one each", grove(), 6, []int{6, 4, 0, 3, 1}},
		{"kids whose places fall", []api.Node{leaf(0, 1), leaf(1, 2), inner(1, 0, 0, 2)}, 2, []int{2, 1, 0}},
		{"a row", []api.Node{leaf(0, 1), inner(-1, 0, 0, 1), inner(1, -1, 0, 1), inner(-1, 2, 0, 1)}, 3, []int{3, 2, 1, 0}},
		{"the first node of a row", []api.Node{leaf(0, 1), inner(-1, 0, 0, 1), inner(1, -1, 0, 1)}, 0, []int{0}},
		{"all of a frame", framed(t, 5), 8, []int{8, 4, 2, 0, 1, 3, 7, 5, 6}},
		{"one half of a frame", framed(t, 5), 4, []int{4, 2, 0, 1, 3}},
		{"the other half of a frame", framed(t, 5), 7, []int{7, 5, 6}},
	}
	for _, c := range cases {
		t.Run(c.name, func(t *testing.T) {
			all(t, c.list, c.root, c.want, api.OK)
		})
	}
}

func TestAllAsksForKindsAndKidsAlone(t *testing.T) {
	l := grove()
	for i := range l {
		l[i].From, l[i].To, l[i].At, l[i].Item = 9-i, -i, math.MinInt64+int64(i), math.MaxInt-i
	}
	for root := range l {
		all(t, l, root, allByHand(grove(), root), api.OK)
	}
}

// P7.2

func TestLeavesOfAFrame(t *testing.T) {
	// 0 1 (2: 0 1) 3 (4: 2 3) 5 6 (7: 5 6) (8: 4 7): the leaves 0, 1 and 2, 3 and 4
	cases := []struct {
		name           string
		root, from, to int
		want           []int
		entered        int
	}{
		{"all leaves", 8, 0, 5, []int{0, 1, 2, 3, 4}, 9},
		{"more than all", 8, -7, 70, []int{0, 1, 2, 3, 4}, 9},
		{"as much as there may be", 8, math.MinInt, math.MaxInt, []int{0, 1, 2, 3, 4}, 9},
		{"all but the first", 8, 1, 5, []int{1, 2, 3, 4}, 9},
		{"all but the last", 8, 0, 4, []int{0, 1, 2, 3}, 9},
		{"all but both", 8, 1, 4, []int{1, 2, 3}, 9},
		{"the first alone", 8, 0, 1, []int{0}, 7},
		{"the first, and what is ahead of it", 8, -3, 1, []int{0}, 7},
		{"one in the middle", 8, 2, 3, []int{2}, 5},
		{"the last alone", 8, 4, 5, []int{4}, 5},
		{"the last, and what is behind it", 8, 4, 9, []int{4}, 5},
		{"one half", 8, 0, 3, []int{0, 1, 2}, 7},
		{"the other half", 8, 3, 5, []int{3, 4}, 5},
		{"one leaf more than one half", 8, 0, 4, []int{0, 1, 2, 3}, 9},
		{"none: ahead of all", 8, -4, 0, nil, 1},
		{"none: far ahead of all", 8, math.MinInt, -9, nil, 1},
		{"none: behind all", 8, 5, 9, nil, 1},
		{"none: far behind all", 8, 6, math.MaxInt, nil, 1},
		{"none: empty, at the beginning", 8, 0, 0, nil, 1},
		{"none: empty, between the halves", 8, 3, 3, nil, 3},
		{"none: empty, within a half", 8, 2, 2, nil, 5},
		{"none: empty, between two leaves", 8, 4, 4, nil, 5},
		{"none: empty, at the end", 8, 5, 5, nil, 1},
		{"none: the wrong way round, over all", 8, 5, 0, nil, 1},
		{"none: the wrong way round, within all", 8, 4, 1, nil, 3},
		{"none: the wrong way round, by one", 8, 2, 1, nil, 5},
		{"none: the wrong way round, ahead of all", 8, -1, -4, nil, 1},
		{"none: the wrong way round, behind all", 8, 9, 6, nil, 1},
		{"none: the wrong way round, as far as may be", 8, math.MaxInt, math.MinInt, nil, 1},
		{"from a node below, all", 4, 0, 5, []int{0, 1, 2}, 5},
		{"from a node below, some", 4, 1, 4, []int{1, 2}, 5},
		{"from a node below, none", 4, 3, 5, nil, 1},
		{"from another node below, some", 7, 1, 4, []int{3}, 3},
		{"from another node below, the wrong way round", 4, 2, 1, nil, 3},
		{"from a leaf of the range", 3, 2, 3, []int{2}, 1},
		{"from a leaf of more", 3, 0, 5, []int{2}, 1},
		{"from a leaf behind the range", 3, 0, 2, nil, 1},
		{"from a leaf ahead of the range", 3, 3, 5, nil, 1},
		{"from a leaf, an empty range", 3, 2, 2, nil, 1},
		{"from a leaf, the wrong way round", 3, 3, 2, nil, 1},
	}
	l := framed(t, 5)
	for _, c := range cases {
		t.Run(c.name, func(t *testing.T) {
			leaves(t, l, c.root, c.from, c.to, c.want, c.entered, api.OK)
		})
	}
}

func TestLeavesOfNodesWithOneKid(t *testing.T) {
	cases := []struct {
		name           string
		root, from, to int
		want           []int
		entered        int
	}{
		{"all", 6, 4, 8, []int{4, 7}, 5},
		{"that of the right kid alone", 6, 4, 5, []int{4}, 4},
		{"that of the left kid alone", 6, 7, 8, []int{7}, 4},
		{"none of them, but numbers between", 6, 5, 7, nil, 3},
		{"from the right kid's parent", 4, 0, 9, []int{4}, 2},
		{"from the left kid's parent", 3, 0, 9, []int{7}, 2},
		{"none of the right kid's parent", 4, 5, 9, nil, 1},
		{"none of the left kid's parent", 3, 0, 7, nil, 1},
		{"the other tree", 7, 0, 9, []int{1, 2}, 3},
		{"a leaf by itself", 8, 0, 9, []int{0}, 1},
	}
	for _, c := range cases {
		t.Run(c.name, func(t *testing.T) {
			leaves(t, grove(), c.root, c.from, c.to, c.want, c.entered, api.OK)
		})
	}
}

// What stands in nodes needs to be no frame's.
func TestLeavesGoByWhatStandsInNodes(t *testing.T) {
	cases := []struct {
		name     string
		list     []api.Node
		from, to int
		want     []int
		entered  int
	}{
		{"leaves that fall", []api.Node{leaf(1, 2), leaf(0, 1), inner(0, 1, 0, 2)}, 0, 2, []int{1, 0}, 3},
		{"the same leaf twice", []api.Node{leaf(3, 4), leaf(3, 4), inner(0, 1, 3, 4)}, 3, 4, []int{3, 3}, 3},
		{"a leaf over many, of which the range has one", []api.Node{leaf(2, 9)}, 5, 6, []int{2}, 1},
		{"a leaf over many, of which the range has the last one", []api.Node{leaf(2, 9)}, 8, 20, []int{2}, 1},
		{"a leaf over many, behind which the range begins", []api.Node{leaf(2, 9)}, 9, 20, nil, 1},
		{"a leaf over many, of which the range has the first one", []api.Node{leaf(2, 9)}, -5, 3, []int{2}, 1},
		{"a leaf over many, at which the range ends", []api.Node{leaf(2, 9)}, -5, 2, nil, 1},
		{"a leaf over many, within which there is an empty range", []api.Node{leaf(2, 9)}, 5, 5, []int{2}, 1},
		{"a leaf over many, within which there is a range the wrong way round", []api.Node{leaf(2, 9)}, 6, 4, []int{2}, 1},
		{"a leaf that ends where it begins", []api.Node{leaf(3, 3)}, 0, 9, []int{3}, 1},
		{"a leaf that ends ahead of where it begins", []api.Node{leaf(6, 3)}, 0, 9, []int{6}, 1},
		{"a leaf that ends ahead of the range", []api.Node{leaf(6, 0)}, 0, 9, nil, 1},
		{"a leaf that begins behind the range", []api.Node{leaf(9, 3)}, 0, 9, nil, 1},
		{"a leaf below a node that has none of the range", []api.Node{leaf(5, 6), inner(0, -1, 0, 1)}, 5, 6, nil, 1},
		{"a leaf that has none of the range, below a node that has", []api.Node{leaf(5, 6), inner(-1, 0, 0, 4)}, 2, 3, nil, 2},
		{"numbers below 0", []api.Node{leaf(-4, -3), leaf(-3, -2), inner(0, 1, -4, -2)}, -3, -1, []int{-3}, 3},
		{"the least numbers", []api.Node{leaf(math.MinInt, math.MinInt+1)}, math.MinInt, math.MaxInt, []int{math.MinInt}, 1},
		{"the greatest numbers", []api.Node{leaf(math.MaxInt-1, math.MaxInt)}, math.MinInt, math.MaxInt, []int{math.MaxInt - 1}, 1},
		{"a leaf at which no range ends", []api.Node{leaf(math.MaxInt, math.MaxInt)}, math.MinInt, math.MaxInt, nil, 1},
		{"all numbers", []api.Node{leaf(math.MinInt, math.MaxInt)}, 0, 0, []int{math.MinInt}, 1},
	}
	for _, c := range cases {
		t.Run(c.name, func(t *testing.T) {
			root := len(c.list) - 1
			leaves(t, c.list, root, c.from, c.to, c.want, c.entered, api.OK)
			asByHand(t, c.list, root, c.from, c.to)
		})
	}
}

func TestOfALeafItsFromIsTold(t *testing.T) {
	n := leaf(4, 6)
	n.At, n.Item = 9, 5
	leaves(t, []api.Node{n}, 0, 0, 9, []int{4}, 1, api.OK)
}

// Errors.

// wrong are lists of nodes that are not right.
func wrong() map[string][]api.Node {
	two := func(n ...api.Node) []api.Node {
		return append([]api.Node{leaf(0, 1), leaf(1, 2)}, n...)
	}
	return map[string][]api.Node{
		"no Kind":                              {{L: -1, R: -1}},
		"a Kind past both":                     two(api.Node{Kind: 3, L: 0, R: 1}),
		"nothing at all":                       two(api.Node{}),
		"an inner node without kids":           two(inner(-1, -1, 0, 2)),
		"an inner node without kids alone":     {inner(-1, -1, 0, 2)},
		"the same kid twice":                   two(inner(0, 0, 0, 2)),
		"itself as a kid":                      two(inner(2, 0, 0, 2)),
		"itself as its only kid":               {inner(0, -1, 0, 1)},
		"a kid behind":                         {leaf(0, 1), inner(0, 2, 0, 2), leaf(1, 2)},
		"a kid past the end":                   two(inner(0, 3, 0, 2)),
		"a kid below none":                     two(inner(-2, 0, 0, 2)),
		"a kid far past the end":               two(inner(math.MaxInt, 0, 0, 2)),
		"a kid far below none":                 two(inner(0, math.MinInt, 0, 2)),
		"a leaf with a kid":                    two(api.Node{Kind: api.Leaf, L: 0, R: -1, To: 1}),
		"a leaf whose kids are left out":       two(api.Node{Kind: api.Leaf, To: 1}),
		"somebody's kid":                       two(inner(0, 1, 0, 2), inner(1, -1, 1, 2)),
		"two nodes that are one another's kid": {leaf(0, 1), inner(2, 0, 0, 1), inner(1, -1, 0, 1)},
		"nodes that go round":                  {inner(2, -1, 0, 1), inner(0, -1, 0, 1), inner(1, -1, 0, 1)},
	}
}

func TestNodesThatAreNotRight(t *testing.T) {
	for name, l := range wrong() {
		t.Run(name, func(t *testing.T) {
			for root := range l {
				refused(t, l, root, api.ErrPool)
			}
			for _, root := range []int{-1, -2, len(l), len(l) + 1, math.MinInt, math.MaxInt} {
				refused(t, l, root, api.ErrPool) // ahead of ErrArg
			}
		})
	}
}

func TestNodesThatAreNotRightFarFromTheWalk(t *testing.T) {
	for name, l := range wrong() {
		t.Run(name, func(t *testing.T) {
			refused(t, append(l, leaf(5, 6)), len(l), api.ErrPool)
		})
	}
	l := grove()
	l[8].Kind = api.Inner
	for root := range l {
		refused(t, l, root, api.ErrPool)
	}
}

func TestPlacesThatAreNone(t *testing.T) {
	for _, l := range [][]api.Node{nil, {}, {leaf(0, 1)}, grove(), framed(t, 5), grove()[:5]} {
		for _, root := range []int{-1, -2, len(l), len(l) + 1, math.MinInt, math.MaxInt} {
			refused(t, l, root, api.ErrArg)
		}
	}
}

func TestTheRoomBehindAListIsNoneOfIt(t *testing.T) {
	l := grove()
	refused(t, l[:3], 3, api.ErrArg)
	refused(t, l[3:4], 0, api.ErrPool)
	l[5] = inner(6, -1, 0, 9)
	refused(t, l, 0, api.ErrPool)
	all(t, l[:5], 3, []int{3, 1}, api.OK)
}

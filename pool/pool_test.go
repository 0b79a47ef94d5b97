package pool_test

import (
	"math"
	"slices"
	"testing"

	"gridiron/api"
	"gridiron/pool"
)

// leaf is a leaf with the number item.
func leaf(item int) api.Node {
	return api.Node{Kind: api.Leaf, L: -1, R: -1, Item: item}
}

// inner is an inner node with the kids l and r.
func inner(l, r int) api.Node {
	return api.Node{Kind: api.Inner, L: l, R: r}
}

// empty is a pool without nodes, with room for most of them.
func empty(t *testing.T, most int) *pool.Pool {
	t.Helper()
	p, errno := pool.New(most)
	if p == nil || errno != api.OK {
		t.Fatalf("New of %d: %v, %d", most, p, errno)
	}
	return p
}

// filled is a pool with just the nodes of l, and room for so many more.
func filled(t *testing.T, l []api.Node, more int) *pool.Pool {
	t.Helper()
	p := empty(t, len(l)+more)
	for i, n := range l {
		put(t, p, n, i, api.OK)
	}
	return p
}

// put fails unless Put of n answers just that.
func put(t *testing.T, p *pool.Pool, n api.Node, place int, want api.Errno) {
	t.Helper()
	if got, errno := p.Put(n); got != place || errno != want {
		t.Fatalf("Put of %+v: %d, %d; not %d, %d", n, got, errno, place, want)
	}
}

// holds fails unless the nodes of p are just those of l, whichever way it is asked for them.
func holds(t *testing.T, p *pool.Pool, l []api.Node) {
	t.Helper()
	if p.Len() != len(l) {
		t.Fatalf("there are %d nodes, not %d", p.Len(), len(l))
	}
	for i, n := range l {
		if got, ok := p.Get(i); got != n || !ok {
			t.Fatalf("Get of %d: %+v, %t; not %+v", i, got, ok, n)
		}
	}
	if got := p.Nodes(); !slices.Equal(got, l) {
		t.Fatalf("Nodes: %+v, not %+v", got, l)
	}
	if got, want := p.Roots(), rootsByHand(l); !slices.Equal(got, want) {
		t.Fatalf("Roots of %+v: %v, not %v", l, got, want)
	}
}

// isKid tells whether the node at the place i is a kid of one of l's inner nodes.
func isKid(l []api.Node, i int) bool {
	return slices.ContainsFunc(l, func(n api.Node) bool {
		return n.Kind == api.Inner && (n.L == i || n.R == i)
	})
}

// rootsByHand are the places of l's nodes that are nobody's kids, each looked for among all.
func rootsByHand(l []api.Node) []int {
	var roots []int
	for i := range l {
		if !isKid(l, i) {
			roots = append(roots, i)
		}
	}
	return roots
}

// mayByHand tells by the chapter's words whether n may be put behind l.
func mayByHand(l []api.Node, n api.Node) bool {
	if n.Kind == api.Leaf {
		return n.L == -1 && n.R == -1
	}
	if n.Kind != api.Inner || n.L == -1 && n.R == -1 || n.L == n.R {
		return false
	}
	free := func(kid int) bool {
		return kid == -1 || kid >= 0 && kid < len(l) && !isKid(l, kid)
	}
	return free(n.L) && free(n.R)
}

// rightByHand tells by the chapter's words whether l are right nodes.
func rightByHand(l []api.Node) bool {
	for i, n := range l {
		if !mayByHand(l[:i], n) {
			return false
		}
	}
	return true
}

// heightByHand goes down from the node at the place i of l.
func heightByHand(l []api.Node, i int) int {
	if l[i].Kind == api.Leaf {
		return 0
	}
	high := 0
	for _, kid := range []int{l[i].L, l[i].R} {
		if kid != -1 {
			high = max(high, heightByHand(l, kid))
		}
	}
	return high + 1
}

// mixed are n right nodes by a rule that goes round; the greater leaves is, the more of them are leaves. What else stands in them is of all kinds.
func mixed(n, leaves int) []api.Node {
	turn := uint64(n)*2654435761 + uint64(leaves)
	next := func(below int) int {
		turn = turn*6364136223846793005 + 1442695040888963407
		return int(turn>>33) % below
	}
	var list []api.Node
	var free []int // places of nodes that are nobody's kids
	kid := func() int {
		at := next(len(free))
		place := free[at]
		free = slices.Delete(free, at, at+1)
		return place
	}
	for i := range n {
		made := leaf(next(1000) - 500)
		if len(free) > 0 && next(leaves+2) < 2 {
			made = inner(kid(), -1)
			if len(free) > 0 && next(3) > 0 {
				made.R = kid()
			}
			if next(2) > 0 {
				made.L, made.R = made.R, made.L
			}
		}
		made.From, made.To, made.At = next(9)-4, next(9)-4, int64(next(1<<30))-1<<29
		list, free = append(list, made), append(free, i)
	}
	return list
}

// The chapter's examples.

func TestTheChaptersExamples(t *testing.T) {
	p := empty(t, 3)
	put(t, p, leaf(0), 0, api.OK)
	put(t, p, leaf(0), 1, api.OK)
	put(t, p, inner(0, 0), 0, api.ErrPool)
	put(t, p, inner(0, 2), 0, api.ErrPool)
	put(t, p, inner(1, 0), 2, api.OK)
	put(t, p, leaf(0), 0, api.ErrFull)
	put(t, p, inner(1, -1), 0, api.ErrPool)
	if got := p.Roots(); !slices.Equal(got, []int{2}) {
		t.Errorf("Roots: %v, not 2", got)
	}
	if high, errno := pool.Height(p.Nodes(), 2); high != 1 || errno != api.OK {
		t.Errorf("Height of 2: %d, %d; not 1", high, errno)
	}
	put(t, p, inner(-1, -1), 0, api.ErrPool)
	put(t, p, api.Node{Kind: api.Leaf, L: 0, R: -1}, 0, api.ErrPool)
}

// P5.1

func TestNew(t *testing.T) {
	cases := []struct {
		most int
		want api.Errno
	}{
		{0, api.OK}, {1, api.OK}, {3, api.OK}, {1 << 20, api.OK},
		{1<<36 - 1, api.OK}, {1 << 36, api.OK}, {1<<36 + 1, api.ErrArg}, {math.MaxInt, api.ErrArg},
		{-1, api.ErrArg}, {-3, api.ErrArg}, {-1 << 36, api.ErrArg}, {math.MinInt, api.ErrArg},
	}
	for _, c := range cases {
		p, errno := pool.New(c.most)
		if errno != c.want || (p != nil) != (c.want == api.OK) {
			t.Errorf("New of %d: %v, %d; not %d", c.most, p, errno, c.want)
			continue
		}
		if p != nil {
			holds(t, p, nil)
		}
	}
}

func TestThereIsRoomForSoManyNodes(t *testing.T) {
	for _, most := range []int{0, 1, 2, 3, 10, 1000} {
		p := empty(t, most)
		var list []api.Node
		for i := range most {
			put(t, p, leaf(i), i, api.OK)
			list = append(list, leaf(i))
		}
		put(t, p, leaf(0), 0, api.ErrFull)
		if most > 0 {
			put(t, p, inner(0, -1), 0, api.ErrFull)
		}
		holds(t, p, list)
	}
}

func TestThePoolWithMostRoomTakesNodes(t *testing.T) {
	p := empty(t, api.MaxNodes)
	list := mixed(5000, 1)
	for i, n := range list {
		put(t, p, n, i, api.OK)
	}
	holds(t, p, list)
}

// three are a leaf that is a kid, its parent, and two leaves that are nobody's kids.
func three() []api.Node {
	return []api.Node{leaf(0), inner(0, -1), leaf(1), leaf(2)}
}

func TestNodesThatMayBePut(t *testing.T) {
	nodes := []api.Node{
		leaf(0), leaf(-7),
		inner(1, 2), inner(2, 1), inner(2, 3), inner(3, 1),
		inner(1, -1), inner(-1, 1), inner(3, -1), inner(-1, 3),
		{Kind: api.Leaf, L: -1, R: -1, From: 9, To: -9, At: math.MinInt64, Item: math.MaxInt},
		{Kind: api.Inner, L: 3, R: 2, From: math.MaxInt, To: math.MinInt, At: math.MaxInt64, Item: -1},
	}
	for _, n := range nodes {
		p := filled(t, three(), 1)
		put(t, p, n, 4, api.OK)
		holds(t, p, append(three(), n))
	}
}

func TestNodesThatMayNotBePut(t *testing.T) {
	cases := []struct {
		name string
		node api.Node
	}{
		{"an inner node without kids", inner(-1, -1)},
		{"the same kid twice", inner(2, 2)},
		{"the same kid twice, somebody's", inner(0, 0)},
		{"the same kid twice, not there", inner(-2, -2)},
		{"somebody's kid on the left", inner(0, 2)},
		{"somebody's kid on the right", inner(2, 0)},
		{"somebody's kid alone on the left", inner(0, -1)},
		{"somebody's kid alone on the right", inner(-1, 0)},
		{"itself on the left", inner(4, 2)},
		{"itself on the right", inner(2, 4)},
		{"itself alone", inner(4, -1)},
		{"itself alone on the right", inner(-1, 4)},
		{"one past the end", inner(5, 2)},
		{"one past the end on the right", inner(2, 5)},
		{"far past the end", inner(math.MaxInt, -1)},
		{"far past the end on the right", inner(-1, math.MaxInt)},
		{"below none", inner(-2, 2)},
		{"below none on the right", inner(2, -2)},
		{"below none, and none", inner(-2, -1)},
		{"none, and below none", inner(-1, -2)},
		{"far below none", inner(math.MinInt, 2)},
		{"far below none on the right", inner(2, math.MinInt)},
		{"a leaf with a left kid", api.Node{Kind: api.Leaf, L: 2, R: -1}},
		{"a leaf with a right kid", api.Node{Kind: api.Leaf, L: -1, R: 2}},
		{"a leaf with two kids", api.Node{Kind: api.Leaf, L: 2, R: 3}},
		{"a leaf whose kids are left out", api.Node{Kind: api.Leaf}},
		{"a leaf with a kid below none", api.Node{Kind: api.Leaf, L: -2, R: -1}},
		{"a leaf with a right kid below none", api.Node{Kind: api.Leaf, L: -1, R: -2}},
		{"no Kind, like a leaf", api.Node{L: -1, R: -1}},
		{"no Kind, like an inner node", api.Node{L: 2, R: 3}},
		{"a Kind past both, like a leaf", api.Node{Kind: 3, L: -1, R: -1}},
		{"a Kind past both, like an inner node", api.Node{Kind: 3, L: 2, R: 3}},
		{"the greatest Kind", api.Node{Kind: 255, L: 2, R: -1}},
		{"nothing at all", api.Node{}},
	}
	for _, c := range cases {
		t.Run(c.name, func(t *testing.T) {
			p := filled(t, three(), 1)
			put(t, p, c.node, 0, api.ErrPool)
			holds(t, p, three())
			put(t, p, inner(3, 2), 4, api.OK)
			holds(t, p, append(three(), inner(3, 2)))
			put(t, filled(t, three(), 0), c.node, 0, api.ErrPool) // ahead of ErrFull
		})
	}
}

// few are all lists of n right nodes in which nothing stands but kinds and kids.
func few(n int) [][]api.Node {
	if n == 0 {
		return [][]api.Node{nil}
	}
	var lists [][]api.Node
	for _, l := range few(n - 1) {
		for _, node := range someNodes(n) {
			if mayByHand(l, node) {
				lists = append(lists, append(slices.Clone(l), node))
			}
		}
	}
	return lists
}

// someNodes are nodes of all kinds, with kids from below none to past n nodes.
func someNodes(n int) []api.Node {
	var nodes []api.Node
	for _, kind := range []uint8{0, api.Leaf, api.Inner, 3} {
		for l := -2; l <= n+1; l++ {
			for r := -2; r <= n+1; r++ {
				nodes = append(nodes, api.Node{Kind: kind, L: l, R: r})
			}
		}
	}
	return nodes
}

func TestBehindAllPoolsOfFewNodesJustThoseMayBePutThatTheChapterSays(t *testing.T) {
	for n := range 5 {
		for _, l := range few(n) {
			for _, node := range someNodes(n) {
				p := filled(t, l, 1)
				if mayByHand(l, node) {
					put(t, p, node, n, api.OK)
					holds(t, p, append(slices.Clone(l), node))
				} else {
					put(t, p, node, 0, api.ErrPool)
					holds(t, p, l)
				}
			}
		}
	}
}

func TestAKidThatWasRefusedWithItsParentIsNobodys(t *testing.T) {
	p := filled(t, []api.Node{leaf(0), leaf(1)}, 2)
	for _, n := range []api.Node{inner(0, 7), inner(7, 0), inner(0, 0), inner(0, 2), inner(1, -2)} {
		put(t, p, n, 0, api.ErrPool)
	}
	put(t, p, inner(0, -1), 2, api.OK)
	put(t, p, inner(0, 1), 0, api.ErrPool) // 0 is somebody's, and 1 stays nobody's
	put(t, p, inner(1, 2), 3, api.OK)
	holds(t, p, []api.Node{leaf(0), leaf(1), inner(0, -1), inner(1, 2)})
}

func TestAKidOfANodeThatWasRefusedForWantOfRoomIsNobodys(t *testing.T) {
	p := filled(t, []api.Node{leaf(0), leaf(1)}, 0)
	for range 2 {
		put(t, p, inner(0, 1), 0, api.ErrFull)
	}
	holds(t, p, []api.Node{leaf(0), leaf(1)})
}

func TestPoolsDoNotKnowOfOneAnother(t *testing.T) {
	one, other := empty(t, 4), empty(t, 4)
	put(t, one, leaf(1), 0, api.OK)
	put(t, one, leaf(2), 1, api.OK)
	put(t, other, inner(0, 1), 0, api.ErrPool)
	put(t, other, leaf(3), 0, api.OK)
	put(t, one, inner(0, 1), 2, api.OK)
	put(t, other, inner(0, -1), 1, api.OK)
	holds(t, one, []api.Node{leaf(1), leaf(2), inner(0, 1)})
	holds(t, other, []api.Node{leaf(3), inner(0, -1)})
}

// P5.2

func TestGetAtPlacesThatAreNone(t *testing.T) {
	for _, l := range [][]api.Node{nil, {leaf(5)}, three()} {
		p := filled(t, l, 3)
		for _, i := range []int{-1, -2, len(l), len(l) + 1, len(l) + 3, math.MaxInt, math.MinInt} {
			if got, ok := p.Get(i); ok || got != (api.Node{}) {
				t.Errorf("Get of %d of %d nodes: %+v, %t", i, len(l), got, ok)
			}
		}
	}
}

func TestRoots(t *testing.T) {
	cases := []struct {
		name string
		list []api.Node
		want []int
	}{
		{"no nodes", nil, nil},
		{"a leaf", []api.Node{leaf(0)}, []int{0}},
		{"leaves", []api.Node{leaf(0), leaf(0), leaf(0)}, []int{0, 1, 2}},
		{"a kid, and a leaf behind it", three(), []int{1, 2, 3}},
		{"a kid on the right", []api.Node{leaf(0), leaf(0), inner(-1, 1)}, []int{0, 2}},
		{"two trees in one another", []api.Node{leaf(0), leaf(0), leaf(0), leaf(0), inner(0, 2), inner(3, 1)}, []int{4, 5}},
		{"one tree", []api.Node{leaf(0), leaf(0), inner(1, 0), leaf(0), inner(2, 3)}, []int{4}},
		{"a line", []api.Node{leaf(0), inner(0, -1), inner(-1, 1), inner(2, -1)}, []int{3}},
	}
	for _, c := range cases {
		if got := filled(t, c.list, 0).Roots(); !slices.Equal(got, c.want) {
			t.Errorf("%s: %v, not %v", c.name, got, c.want)
		}
	}
}

func TestPoolsOfManyNodesHoldWhatWasPut(t *testing.T) {
	for _, n := range []int{0, 1, 2, 3, 10, 100, 700} {
		for _, leaves := range []int{0, 1, 5} {
			list := mixed(n, leaves)
			holds(t, filled(t, list, 2), list)
		}
	}
}

func TestOfNoPoolNothingIsTold(t *testing.T) {
	made := filled(t, three(), 5)
	copied := *made
	for name, p := range map[string]*pool.Pool{"nil": nil, "one that was not made": {}, "new": new(pool.Pool), "a copy": &copied} {
		for _, n := range []api.Node{leaf(0), inner(1, 2), inner(-1, -1), {}} {
			if got, errno := p.Put(n); got != 0 || errno != api.ErrNil {
				t.Errorf("%s: Put of %+v: %d, %d; not ErrNil", name, n, got, errno)
			}
		}
		for _, i := range []int{-1, 0, 1} {
			if got, ok := p.Get(i); ok || got != (api.Node{}) {
				t.Errorf("%s: Get of %d: %+v, %t", name, i, got, ok)
			}
		}
		if p.Len() != 0 || len(p.Roots()) != 0 || len(p.Nodes()) != 0 {
			t.Errorf("%s: %d nodes, %v, %v", name, p.Len(), p.Roots(), p.Nodes())
		}
	}
	holds(t, made, three())
}

// P5.3

func TestRight(t *testing.T) {
	cases := []struct {
		name string
		list []api.Node
		want bool
	}{
		{"no nodes", nil, true},
		{"an empty list", []api.Node{}, true},
		{"a leaf", []api.Node{leaf(0)}, true},
		{"an inner node alone", []api.Node{inner(0, -1)}, false},
		{"an inner node without kids", []api.Node{leaf(0), inner(-1, -1)}, false},
		{"nothing at all", []api.Node{{}}, false},
		{"one kid", three(), true},
		{"a kid behind its parent", []api.Node{leaf(0), inner(0, 2), leaf(0)}, false},
		{"two nodes that are each other's kids", []api.Node{inner(1, -1), inner(0, -1)}, false},
		{"the same kid twice", []api.Node{leaf(0), inner(0, 0)}, false},
		{"a kid of two", []api.Node{leaf(0), inner(0, -1), inner(-1, 0)}, false},
		{"a kid of two, far apart", append(three(), inner(2, 1), inner(3, 0)), false},
		{"a leaf with a kid", append(three(), api.Node{Kind: api.Leaf, L: 1, R: -1}), false},
		{"a Kind that is neither", append(three(), api.Node{Kind: 3, L: 1, R: 2}), false},
		{"what is wrong, ahead of what is right", []api.Node{inner(-1, -1), leaf(0), leaf(0), inner(1, 2)}, false},
		{"whatever else stands in them", []api.Node{{Kind: api.Leaf, L: -1, R: -1, From: -1, To: -2, At: -3, Item: -4}}, true},
	}
	for _, c := range cases {
		if got := pool.Right(c.list); got != c.want {
			t.Errorf("%s: %t, not %t", c.name, got, c.want)
		}
	}
}

// height fails unless Height of l and i answers just that.
func height(t *testing.T, l []api.Node, i, want int, errno api.Errno) {
	t.Helper()
	if got, is := pool.Height(l, i); got != want || is != errno {
		t.Errorf("Height of %d of %d nodes: %d, %d; not %d, %d", i, len(l), got, is, want, errno)
	}
}

func TestHeight(t *testing.T) {
	uneven := []api.Node{leaf(0), leaf(0), inner(1, -1), inner(-1, 2), inner(0, 3), leaf(0), inner(4, 5)}
	for i, want := range []int{0, 0, 1, 2, 3, 0, 4} {
		height(t, uneven, i, want, api.OK)
	}
	mirrored := []api.Node{leaf(0), leaf(0), inner(1, -1), inner(-1, 2), inner(3, 0), leaf(0), inner(5, 4)}
	for i, want := range []int{0, 0, 1, 2, 3, 0, 4} {
		height(t, mirrored, i, want, api.OK)
	}
	even := []api.Node{leaf(0), leaf(0), inner(0, 1), leaf(0), leaf(0), inner(3, 4), inner(2, 5)}
	for i, want := range []int{0, 0, 1, 0, 0, 1, 2} {
		height(t, even, i, want, api.OK)
	}
}

func TestHeightAtPlacesThatAreNone(t *testing.T) {
	for _, l := range [][]api.Node{nil, {leaf(0)}, three(), mixed(100, 1)} {
		for _, i := range []int{-1, -2, len(l), len(l) + 1, math.MaxInt, math.MinInt} {
			height(t, l, i, 0, api.ErrArg)
		}
	}
}

func TestHeightOfNodesThatAreNotRight(t *testing.T) {
	for _, wrong := range [][]api.Node{{{}}, {inner(0, -1)}, append(three(), inner(-1, -1)), append(three(), inner(0, 1))} {
		for _, i := range []int{0, len(wrong) - 1, -1, len(wrong), math.MaxInt, math.MinInt} {
			height(t, wrong, i, 0, api.ErrPool) // at any place, ahead of ErrArg
		}
	}
}

func TestHeightsAreThoseByHand(t *testing.T) {
	for n := range 6 {
		for _, l := range few(n) {
			for i := range l {
				height(t, l, i, heightByHand(l, i), api.OK)
			}
		}
	}
	for _, leaves := range []int{0, 1, 5} {
		list := mixed(400, leaves)
		for i := range list {
			height(t, list, i, heightByHand(list, i), api.OK)
		}
	}
}

func TestALineOfManyNodesIsAsHighAsItIsLong(t *testing.T) {
	line := []api.Node{leaf(0)}
	for len(line) < 1<<20 {
		line = append(line, inner(len(line)-1, -1))
	}
	for _, i := range []int{0, 1, 77, 1<<20 - 1} {
		height(t, line, i, i, api.OK)
	}
}

package pool_test

import (
	"slices"
	"testing"

	"gridiron/api"
	"gridiron/pool"
)

// P5.4

// below counts by how many ways each node is come to from the node at the place i down.
func below(l []api.Node, i int, ways []int) {
	ways[i]++
	if l[i].Kind == api.Inner {
		for _, kid := range []int{l[i].L, l[i].R} {
			if kid != -1 {
				below(l, kid, ways)
			}
		}
	}
}

// kidsOf counts the kids of all nodes.
func kidsOf(l []api.Node) int {
	count := 0
	for _, n := range l {
		for _, kid := range []int{n.L, n.R} {
			if kid != -1 {
				count++
			}
		}
	}
	return count
}

func TestEachNodeIsBelowOneRootByOneWay(t *testing.T) {
	for _, n := range []int{0, 1, 2, 3, 9, 100, 1000} {
		for _, leaves := range []int{0, 1, 2, 6} {
			p := filled(t, mixed(n, leaves), 0)
			nodes, ways := p.Nodes(), make([]int, n)
			for _, root := range p.Roots() {
				below(nodes, root, ways)
			}
			for i, count := range ways {
				if count != 1 {
					t.Fatalf("node %d of %d is come to by %d ways", i, n, count)
				}
			}
		}
	}
}

func TestThereAreAsManyRootsAsNodesLessAllKids(t *testing.T) {
	for n := range 120 {
		for _, leaves := range []int{0, 1, 6} {
			p := filled(t, mixed(n, leaves), 0)
			if got, want := len(p.Roots()), p.Len()-kidsOf(p.Nodes()); got != want {
				t.Fatalf("%d roots of %d nodes, not %d", got, n, want)
			}
		}
	}
}

func TestAPoolsNodesAreRight(t *testing.T) {
	p := empty(t, 60)
	for turn := range 4000 {
		n := inner(turn*7%(p.Len()+2)-1, turn*5%(p.Len()+2)-1)
		if turn%3 == 0 {
			n = leaf(turn)
		}
		p.Put(n)
		if nodes := p.Nodes(); !pool.Right(nodes) || !rightByHand(nodes) {
			t.Fatalf("%+v are not right", nodes)
		}
	}
	if p.Len() != 60 {
		t.Errorf("only %d nodes were put", p.Len())
	}
}

// canBePut tells whether all nodes of l can be put into a pool.
func canBePut(t *testing.T, l []api.Node) bool {
	p := empty(t, len(l))
	for _, n := range l {
		if _, errno := p.Put(n); errno != api.OK {
			return false
		}
	}
	return true
}

// bent are lists like l with another number at one place.
func bent(l []api.Node) [][]api.Node {
	var lists [][]api.Node
	for i := range l {
		for other := -2; other <= len(l); other++ {
			left, right, kind := slices.Clone(l), slices.Clone(l), slices.Clone(l)
			left[i].L, right[i].R, kind[i].Kind = other, other, uint8(other+2)
			lists = append(lists, left, right, kind)
		}
	}
	return lists
}

func TestJustNodesThatAreRightCanBePut(t *testing.T) {
	right, wrong := 0, 0
	for n := range 14 {
		for _, leaves := range []int{0, 1, 3} {
			for _, l := range append(bent(mixed(n, leaves)), mixed(n, leaves)) {
				want := rightByHand(l)
				if pool.Right(l) != want || canBePut(t, l) != want {
					t.Fatalf("%+v: %t, %t; not %t", l, pool.Right(l), canBePut(t, l), want)
				}
				if want {
					right++
				} else {
					wrong++
				}
			}
		}
	}
	if right < 500 || wrong < 500 {
		t.Errorf("only %d lists are right, %d are wrong", right, wrong)
	}
}

func TestTheFirstOfRightNodesAreRight(t *testing.T) {
	list := mixed(300, 1)
	for n := range list {
		if !pool.Right(list[:n]) {
			t.Fatalf("the first %d nodes are not right", n)
		}
	}
}

// R3

func TestWhatIsToldOfAPoolIsInMemoryOfItsOwn(t *testing.T) {
	for n := range 40 {
		list := mixed(n, 2)
		p := filled(t, list, 50)
		nodes, roots := p.Nodes(), p.Roots()
		keptNodes, keptRoots := p.Nodes(), p.Roots()
		spoilNodes(nodes)
		spoilPlaces(roots)
		holds(t, p, list)
		if !slices.Equal(keptNodes, list) || !slices.Equal(keptRoots, rootsByHand(list)) {
			t.Fatalf("what is told twice of %d nodes shares memory", n)
		}
		put(t, p, leaf(7), n, api.OK)
		if n > 0 {
			put(t, p, inner(n, -1), n+1, api.OK)
		}
		if !slices.Equal(keptNodes, list) || !slices.Equal(keptRoots, rootsByHand(list)) {
			t.Fatalf("what was told of %d nodes is changed by what is put", n)
		}
		spoilNodes(keptNodes) // the room behind what was told is not the pool's either
		spoilPlaces(keptRoots)
		list = append(list, leaf(7))
		if n > 0 {
			list = append(list, inner(n, -1))
		}
		holds(t, p, list)
	}
}

func TestNoListThatIsGivenIsChanged(t *testing.T) {
	all := mixed(80, 1)
	all[60].L = 99
	before := slices.Clone(all)
	for n := range all {
		pool.Right(all[:n])
		for _, i := range []int{-1, 0, n / 2, n - 1, n} {
			pool.Height(all[:n], i)
		}
	}
	if !slices.Equal(all, before) {
		t.Error("Right or Height changes its list, or the room behind it")
	}
}

func TestWhatIsAskedDoesNotHangOnWhatWasAsked(t *testing.T) {
	list := mixed(50, 1)
	p := filled(t, list, 0)
	for range 3 {
		holds(t, p, list)
		for i := range list {
			height(t, list, i, heightByHand(list, i), api.OK)
		}
		if !pool.Right(list) {
			t.Error("right nodes are not right when asked again")
		}
	}
}

// spoilNodes writes over a list and the room behind it.
func spoilNodes(l []api.Node) {
	l = l[:cap(l)]
	for i := range l {
		l[i] = api.Node{Kind: 77, L: 77, R: 77}
	}
}

// spoilPlaces writes over a list and the room behind it.
func spoilPlaces(l []int) {
	l = l[:cap(l)]
	for i := range l {
		l[i] = 77
	}
}

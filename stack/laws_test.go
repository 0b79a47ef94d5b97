package stack_test

import (
	"slices"
	"testing"

	"gridiron/api"
	"gridiron/pool"
	"gridiron/rank"
	"gridiron/stack"
)

// few are all lists of n right nodes, with ranges by a rule that goes round.
func few(n int) [][]api.Node {
	if n == 0 {
		return [][]api.Node{nil}
	}
	var lists [][]api.Node
	for _, l := range few(n - 1) {
		for left := -1; left < n-1; left++ {
			for right := -1; right < n-1; right++ {
				turn := len(lists)
				from, to := turn%5, turn/5%7-1
				for _, node := range []api.Node{inner(left, right, from, to), leaf(from, to)} {
					made := append(slices.Clone(l), node)
					// A leaf's kids are none, whatever left and right are.
					if pool.Right(made) && (node.Kind == api.Inner || left == -1 && right == -1) {
						lists = append(lists, made)
					}
				}
			}
		}
	}
	return lists
}

func TestWalksOverAllListsOfFewNodesAreThoseByHand(t *testing.T) {
	count := 0
	for n := range 6 {
		for _, l := range few(n) {
			count++
			for root := range l {
				for from := -2; from < 7; from++ {
					for to := -2; to < 7; to++ {
						asByHand(t, l, root, from, to)
					}
				}
			}
		}
	}
	if count < 500 {
		t.Errorf("there were %d lists alone", count)
	}
}

// mixed are n right nodes by a rule that goes round; the greater leaves is, the more of them are leaves. Their ranges have nothing to do with one another.
func mixed(n, leaves int) []api.Node {
	turn := uint64(n)*2654435761 + uint64(leaves)
	next := func(below int) int {
		turn = turn*6364136223846793005 + 1442695040888963407
		return int(turn>>33) % below
	}
	var list []api.Node
	var free []int // places of nodes that are nobody's kids
	kid := func() int {
		at := next(len(free))
		place := free[at]
		free = slices.Delete(free, at, at+1)
		return place
	}
	for i := range n {
		from := next(30) - 10
		made := leaf(from, from+next(20)-3)
		if len(free) > 0 && next(leaves+2) < 2 {
			made.Kind, made.L = api.Inner, kid()
			if len(free) > 0 && next(3) > 0 {
				made.R = kid()
			}
			if next(2) > 0 {
				made.L, made.R = made.R, made.L
			}
		}
		list, free = append(list, made), append(free, i)
	}
	return list
}

func TestWalksOverManyNodesAreThoseByHand(t *testing.T) {
	for _, n := range []int{1, 2, 3, 10, 40, 100, 400} {
		for _, share := range []int{0, 1, 2, 6} {
			l := mixed(n, share)
			for root := range l {
				for _, x := range [][2]int{{-99, 99}, {0, 5}, {-4, 1}, {7, 7}, {9, 2}, {root % 20, root % 7}} {
					asByHand(t, l, root, x[0], x[1])
				}
			}
		}
	}
}

// P7.3

func TestAWalkEntersEachNodeBelowOnceAndParentsFirst(t *testing.T) {
	for _, n := range []int{1, 2, 3, 10, 100, 400} {
		for _, share := range []int{0, 1, 2, 6} {
			l := mixed(n, share)
			parent := parents(l)
			for root := range l {
				places, _ := stack.All(l, root)
				when := map[int]int{}
				for i, at := range places {
					if ahead, ok := when[parent[at]]; at != root && (!ok || ahead >= i) {
						t.Fatalf("All from %d of %d nodes: %v has %d ahead of its parent", root, n, places, at)
					}
					if _, twice := when[at]; twice {
						t.Fatalf("All from %d of %d nodes: %v has %d twice", root, n, places, at)
					}
					when[at] = i
				}
				for at := range l {
					if _, ok := when[at]; ok != isBelow(parent, at, root) {
						t.Fatalf("All from %d of %d nodes: %v, %t that %d is in it", root, n, places, ok, at)
					}
				}
			}
		}
	}
}

// isBelow tells whether the node at the place at is the one at root, or below it.
func isBelow(parent []int, at, root int) bool {
	for at != -1 && at != root {
		at = parent[at]
	}
	return at == root
}

func TestWalksFromAllRootsEnterEachNodeOnce(t *testing.T) {
	for _, share := range []int{0, 1, 2, 6} {
		l := mixed(1000, share)
		var places []int
		for at, above := range parents(l) {
			if above == -1 {
				more, _ := stack.All(l, at)
				places = append(places, more...)
			}
		}
		slices.Sort(places)
		for i := range l {
			if len(places) != len(l) || places[i] != i {
				t.Fatalf("walks from all roots enter %v", places)
			}
		}
	}
}

// numbers are those from, ahead of to, of the leaves 0, ahead of n.
func numbers(from, to, n int) []int {
	var list []int
	for i := max(from, 0); i < min(to, n); i++ {
		list = append(list, i)
	}
	return list
}

func TestOfAFrameAllLeavesOfTheRangeAreToldRising(t *testing.T) {
	for n := 1; n < 40; n++ {
		l := framed(t, n)
		root := len(l) - 1
		for from := -2; from <= n+2; from++ {
			for to := -2; to <= n+2; to++ {
				asByHand(t, l, root, from, to)
				told, _, errno := stack.Leaves(l, root, from, to)
				if want := numbers(from, to, n); !slices.Equal(told, want) || errno != api.OK {
					t.Fatalf("Leaves of %d to %d of %d leaves: %v, %d; not %v", from, to, n, told, errno, want)
				}
				enteredFew(t, l, from, to)
			}
		}
	}
}

// enteredFew fails unless as few nodes of a frame are entered, for the range, as the chapter says.
func enteredFew(t *testing.T, l []api.Node, from, to int) {
	t.Helper()
	leaves := (len(l) + 1) / 2
	told, entered, errno := stack.Leaves(l, len(l)-1, from, to)
	if errno != api.OK || entered < 1 || entered > 4*rank.Log(leaves)+2*len(told)+1 {
		t.Fatalf("Leaves of %d to %d of %d leaves: %d told, %d entered, %d", from, to, leaves, len(told), entered, errno)
	}
}

func TestFewNodesOfAGreatFrameAreEntered(t *testing.T) {
	for _, n := range []int{1<<16 - 1, 1 << 16, 1<<16 + 1, 99999} {
		l := framed(t, n)
		for _, x := range [][2]int{{0, n}, {1, n - 1}, {0, 1}, {n - 1, n}, {n/2 - 1, n/2 + 2}, {n / 3, n/3 + 9}, {n / 7, n / 7}, {n / 2, n / 3}, {n, 0}, {n / 5, n - n/9}} {
			enteredFew(t, l, x[0], x[1])
			told, _, _ := stack.Leaves(l, len(l)-1, x[0], x[1])
			if want := numbers(x[0], x[1], n); !slices.Equal(told, want) {
				t.Fatalf("Leaves of %v of %d leaves: %d are told, not %d", x, n, len(told), len(want))
			}
		}
	}
}

// High trees.

// row are n nodes that lie below one another; each has its kid on the side that side tells.
func row(n int, side func(i int) bool) []api.Node {
	l := []api.Node{leaf(0, 1)}
	for i := 1; i < n; i++ {
		if side(i) {
			l = append(l, inner(i-1, -1, 0, 1))
		} else {
			l = append(l, inner(-1, i-1, 0, 1))
		}
	}
	return l
}

func TestOneKidEachAsHighAsThereAreNodes(t *testing.T) {
	const n = 1 << 20
	for name, side := range map[string]func(i int) bool{
		"left":  func(int) bool { return true },
		"right": func(int) bool { return false },
		"both":  func(i int) bool { return i%3 == 0 },
	} {
		l := row(n, side)
		for _, root := range []int{n - 1, n / 2, 1, 0} {
			places, errno := stack.All(l, root)
			if len(places) != root+1 || errno != api.OK {
				t.Fatalf("%s: All from %d: %d places, %d", name, root, len(places), errno)
			}
			for i, at := range places {
				if at != root-i {
					t.Fatalf("%s: All from %d: %d is entered as number %d", name, root, at, i)
				}
			}
			told, entered, errno := stack.Leaves(l, root, 0, 1)
			if !slices.Equal(told, []int{0}) || entered != root+1 || errno != api.OK {
				t.Fatalf("%s: Leaves from %d: %v, %d, %d", name, root, told, entered, errno)
			}
		}
	}
}

// comb are n leaves, each but the first the kid of a node that has all ahead of it as its other kid; leavesFirst tells on which side the leaf is.
func comb(n int, leavesFirst bool) []api.Node {
	l := []api.Node{leaf(0, 1)}
	for i := 1; i < n; i++ {
		l = append(l, leaf(i, i+1))
		below, alone := len(l)-2, len(l)-1
		if leavesFirst {
			below, alone = alone, below
		}
		l = append(l, inner(below, alone, 0, i+1))
	}
	return l
}

func TestTwoKidsEachAsHighAsThereAreLeaves(t *testing.T) {
	const n = 1 << 17
	for _, leavesFirst := range []bool{false, true} {
		l := comb(n, leavesFirst)
		want := numbers(0, n, n)
		if leavesFirst {
			slices.Reverse(want)
		}
		root := len(l) - 1
		told, entered, errno := stack.Leaves(l, root, 0, n)
		if !slices.Equal(told, want) || entered != len(l) || errno != api.OK {
			t.Fatalf("leaves first %t: %d are told, %d entered, %d", leavesFirst, len(told), entered, errno)
		}
		told, entered, errno = stack.Leaves(l, root, n-2, n)
		if slices.Sort(told); !slices.Equal(told, []int{n - 2, n - 1}) || entered != 5 || errno != api.OK {
			t.Fatalf("leaves first %t: of the last two leaves %v are told, %d entered, %d", leavesFirst, told, entered, errno)
		}
		places, errno := stack.All(l, root)
		if len(places) != len(l) || errno != api.OK {
			t.Fatalf("leaves first %t: All: %d places, %d", leavesFirst, len(places), errno)
		}
	}
}

// R3 and R4

func TestNoListThatIsGivenIsChanged(t *testing.T) {
	whole := mixed(80, 1)
	whole[60].L = 99
	before := slices.Clone(whole)
	for n := range whole {
		for _, root := range []int{-1, 0, n / 2, n - 1, n} {
			stack.All(whole[:n], root)
			stack.Leaves(whole[:n], root, -3, 9)
			stack.Leaves(whole[:n], root, 9, -3)
		}
	}
	if !slices.Equal(whole, before) {
		t.Error("All or Leaves changes its list, or the room behind it")
	}
}

func TestWhatIsToldIsInMemoryOfItsOwn(t *testing.T) {
	l := mixed(60, 1)
	for root := range l {
		kept, _ := stack.All(l, root)
		keptLeaves, entered, _ := stack.Leaves(l, root, -3, 15)
		places, _ := stack.All(l, root)
		told, _, _ := stack.Leaves(l, root, -3, 15)
		spoil(places)
		spoil(told)
		want, count := leavesByHand(l, root, -3, 15)
		if !slices.Equal(kept, allByHand(l, root)) || !slices.Equal(keptLeaves, want) || entered != count {
			t.Fatalf("two answers from %d share memory", root)
		}
		asByHand(t, l, root, -3, 15)
	}
}

func TestWhatIsToldDoesNotHangOnWhatWasAsked(t *testing.T) {
	one, other := mixed(50, 1), framed(t, 9)
	for range 3 {
		for root := range 17 {
			asByHand(t, one, root, 0, 9)
			asByHand(t, other, root, 2, 5)
			refused(t, one, -1-root, api.ErrArg)
			refused(t, wrong()["the same kid twice"], root, api.ErrPool)
		}
	}
}

// spoil writes over a list and the room behind it.
func spoil(l []int) {
	l = l[:cap(l)]
	for i := range l {
		l[i] = 77
	}
}

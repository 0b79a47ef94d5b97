package cascade

import (
	"slices"
	"testing"

	"gridiron/api"
	"gridiron/item"
	"gridiron/samples"
)

// listByHand are the names of a node's list: of the points of the row from its From, ahead of its To, by Y.
func listByHand(l []api.Point, k *knot) []uint32 {
	row := slices.SortedFunc(slices.Values(l), item.ByX)[k.From:k.To]
	slices.SortFunc(row, item.ByY)
	var names []uint32
	for _, p := range row {
		names = append(names, p.ID)
	}
	return names
}

// listsHold fails unless all nodes have their lists and bridges.
func listsHold(t *testing.T, l []api.Point) {
	t.Helper()
	v, _ := Build(l)
	if len(v.knots) != 2*len(l)-1 {
		t.Fatalf("of %d points: %d nodes", len(l), len(v.knots))
	}
	for i := range v.knots {
		k := &v.knots[i]
		list := listByHand(l, k)
		if got := k.names.Between(0, len(list)); !slices.Equal(got, list) {
			t.Fatalf("of %v: the list of node %d: %v, not %v", l, i, got, list)
		}
		if k.Kind == api.Leaf {
			continue
		}
		kid, ahead := listByHand(l, &v.knots[k.L]), 0
		for place := range len(list) + 1 {
			if k.bridges[place] != ahead || k.left(place) != ahead || k.right(place) != place-ahead {
				t.Fatalf("of %v: node %d at %d: bridge %d, left %d, right %d; not %d", l, i, place, k.bridges[place], k.left(place), k.right(place), ahead)
			}
			if place < len(list) && slices.Contains(kid, list[place]) {
				ahead++
			}
		}
	}
}

func TestTheChaptersBridges(t *testing.T) {
	cases := []struct {
		name    string
		l       []api.Point
		list    []uint32
		bridges []int
	}{
		// By item.ByX the row is 1, 2, 3, 4, for 2 and 3 have the same X: 1 and 2 are left.
		{"the chapter's points", samples.FourPoints(), []uint32{1, 3, 4, 2}, []int{0, 1, 1, 1, 2}},
		// The names 2 and 3 exchanged, those that stand first and second are left, as the chapter's example has it.
		{"two names exchanged", []api.Point{samples.Point(1, 0, 0), samples.Point(3, 2, 5), samples.Point(2, 2, 1), samples.Point(4, 7, 3)}, []uint32{1, 2, 4, 3}, []int{0, 1, 2, 2, 2}},
	}
	for _, c := range cases {
		t.Run(c.name, func(t *testing.T) {
			v, _ := Build(c.l)
			root := &v.knots[v.root()]
			if names := root.names.Between(0, 4); !slices.Equal(names, c.list) || !slices.Equal(root.bridges, c.bridges) {
				t.Errorf("the root's list: %v; its bridges: %v", names, root.bridges)
			}
			listsHold(t, c.l)
		})
	}
}

func TestListsAndBridges(t *testing.T) {
	for n, side := range []int{4, 4, 3} {
		for _, l := range samples.FewPoints(n+1, side) {
			listsHold(t, l)
		}
	}
	for _, unlike := range []int{1, 3, 500} {
		for _, n := range []int{7, 8, 9, 100} {
			listsHold(t, samples.Points(n, unlike))
		}
	}
}

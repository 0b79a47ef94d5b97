package heap

import (
	"math"
	"slices"
	"testing"

	"gridiron/api"
	"gridiron/frame"
	"gridiron/item"
	"gridiron/rank"
	"gridiron/samples"
)

// byHand are the points that nodes hold, by the nodes' places: of the tree over the leaves of all in which those of l are there.
func byHand(all, l []api.Point) map[int]api.Point {
	row := slices.SortedFunc(slices.Values(all), item.ByX)
	leaves, _ := frame.New(len(all))
	nodes, held := leaves.Nodes(), map[int]api.Point{}
	// Each node stands behind those below it.
	left := slices.Clone(l)
	for place := len(nodes) - 1; place >= 0; place-- {
		node := nodes[place]
		var here []api.Point
		for _, p := range left {
			if slices.Contains(row[node.From:node.To], p) {
				here = append(here, p)
			}
		}
		if len(here) > 0 {
			held[place] = slices.MinFunc(here, item.ByY)
			left = slices.DeleteFunc(left, func(p api.Point) bool { return p == held[place] })
		}
	}
	return held
}

// nodesHold fails unless all nodes of v, which was built of the points in all, hold what they are to as those of l are there.
func nodesHold(t *testing.T, v *Heap, all, l []api.Point) {
	t.Helper()
	want := byHand(all, l)
	if len(v.knots) != 2*len(all)-1 || len(want) != len(l) {
		t.Fatalf("of %d points: %d nodes; %d of %d are held", len(all), len(v.knots), len(want), len(l))
	}
	for place, k := range v.knots {
		p, ok := want[place]
		if ok != (k.held != nil) || ok && *k.held != p {
			t.Fatalf("of %v there are %v: node %d holds %v, not %v (%t)", all, l, place, k.held, p, ok)
		}
	}
}

// goesUp fails unless what nodes hold goes up as all are dropped in that order.
func goesUp(t *testing.T, order []api.Point) {
	t.Helper()
	v, _ := Build(order)
	for i, p := range order {
		nodesHold(t, v, order, order[i:])
		v.Drop(p)
	}
	nodesHold(t, v, order, nil)
}

func TestWhatTheRootHoldsInTheChaptersExamples(t *testing.T) {
	l := samples.FourPoints()
	v, _ := Build(l)
	root := v.leaves.Root()
	for _, p := range []api.Point{l[0], l[2], l[3], l[1]} {
		if held := v.knots[root].held; held == nil || *held != p {
			t.Fatalf("the root holds %v, not %v", held, p)
		}
		if !v.Drop(p) {
			t.Fatalf("%v was not there", p)
		}
	}
	if held := v.knots[root].held; held != nil {
		t.Errorf("the root holds %v, though none is there", held)
	}
}

func TestWhatNodesHold(t *testing.T) {
	for n, side := range []int{4, 4, 3} {
		for i, l := range samples.FewPoints(n+1, side) {
			goesUp(t, samples.Shuffled(l, i))
		}
	}
	for _, unlike := range []int{1, 2, 500} {
		for _, order := range samples.Orders(samples.Points(5, unlike)) {
			goesUp(t, order)
		}
		for _, n := range []int{7, 8, 9, 40} {
			goesUp(t, samples.Points(n, unlike))
		}
	}
	for _, l := range samples.HowPointsLie() {
		goesUp(t, l)
	}
}

func TestADropThatIsNoneLeavesWhatNodesHold(t *testing.T) {
	l := samples.FourPoints()
	v, _ := Build(l)
	for _, p := range samples.NoneOfFour() {
		v.Drop(p)
		nodesHold(t, v, l, l)
	}
}

func TestWhatIsTouchedHasCellsAndNodes(t *testing.T) {
	l := samples.Points(100, 60)
	v, _ := Build(l)
	held := byHand(l, l)
	leaves, _ := frame.New(len(l))
	nodes := leaves.Nodes()
	var xs []int64
	for _, p := range slices.SortedFunc(slices.Values(l), item.ByX) {
		xs = append(xs, p.X)
	}
	for _, b := range samples.BoxesAt(l) {
		if b.X1 > b.X2 {
			continue
		}
		_, looked := rank.First(xs, b.X1)
		_, seen := rank.Above(xs, b.X2)
		// Whoever is told of was told at the node that holds it, and those over that one were entered, too.
		entered := map[int]int{}
		b.Y1 = math.MinInt64
		for place, p := range held {
			if !item.In(p, b) {
				continue
			}
			path, _ := leaves.Path(nodes[place].From)
			for _, over := range path[:slices.Index(path, place)+1] {
				entered[over]++
			}
		}
		names, touched := v.Three(b.X1, b.X2, b.Y2)
		found, looks := v.Any(b.X1, b.X2, b.Y2)
		if fewest := looked + seen + len(entered); touched < fewest {
			t.Fatalf("of %v: Three touches %d, but %d are cells and nodes", b, touched, fewest)
		}
		if found != (len(names) > 0) || looks < looked+seen || found && looks == looked+seen {
			t.Fatalf("of %v: Any: %t, and touches %d; %d cells are looked at", b, found, looks, looked+seen)
		}
	}
}

package low

import (
	"slices"
	"testing"

	"gridiron/api"
	"gridiron/frame"
	"gridiron/item"
	"gridiron/rank"
	"gridiron/samples"
)

// byHand are the bests of nodes, by the nodes' places: of the tree over the leaves of all in which those of l are there.
func byHand(all, l []api.Point) map[int]api.Point {
	row := slices.SortedFunc(slices.Values(all), item.ByX)
	leaves, _ := frame.New(len(all))
	bests := map[int]api.Point{}
	for place, node := range leaves.Nodes() {
		var here []api.Point
		for _, p := range l {
			if slices.Contains(row[node.From:node.To], p) {
				here = append(here, p)
			}
		}
		if len(here) > 0 {
			bests[place] = slices.MinFunc(here, item.ByY)
		}
	}
	return bests
}

// nodesKnow fails unless all nodes of v, which was built of the points in all, know their bests as those of l are there.
func nodesKnow(t *testing.T, v *Low, all, l []api.Point) {
	t.Helper()
	want := byHand(all, l)
	if len(v.knots) != max(0, 2*len(all)-1) {
		t.Fatalf("of %d points: %d nodes", len(all), len(v.knots))
	}
	for place, k := range v.knots {
		p, ok := want[place]
		if ok != (k.best != none) || ok && v.point(k.best) != p {
			t.Fatalf("of %v there are %v: the best of node %d is at place %d, not %v (%t)", all, l, place, k.best, p, ok)
		}
	}
}

// bestsGo fails unless nodes know their bests as all are dropped in that order.
func bestsGo(t *testing.T, order []api.Point) {
	t.Helper()
	v, _ := Build(order)
	for i, p := range order {
		nodesKnow(t, v, order, order[i:])
		v.Drop(p)
	}
	nodesKnow(t, v, order, nil)
}

func TestTheBestsOfNodes(t *testing.T) {
	bestsGo(t, nil)
	for n, side := range []int{4, 4, 3} {
		for i, l := range samples.FewPoints(n+1, side) {
			bestsGo(t, samples.Shuffled(l, i))
		}
	}
	for _, unlike := range []int{1, 2, 500} {
		for _, order := range samples.Orders(samples.Points(5, unlike)) {
			bestsGo(t, order)
		}
		for _, n := range []int{7, 8, 9, 40} {
			bestsGo(t, samples.Points(n, unlike))
		}
	}
	for _, l := range samples.HowPointsLie() {
		bestsGo(t, l)
	}
}

func TestADropThatIsNoneLeavesTheBests(t *testing.T) {
	l := samples.FourPoints()
	v, _ := Build(l)
	for _, p := range samples.NoneOfFour() {
		v.Drop(p)
		nodesKnow(t, v, l, l)
	}
}

// looks are by hand how many things are touched for the points that are told: cells that both searches look at, the nodes that make up the part, and those that hang on the way down to a point behind which another one is told: from where it was met last.
func looks(row []api.Point, x1, x2 int64, told []api.Point) int {
	var xs []int64
	for _, p := range row {
		xs = append(xs, p.X)
	}
	from, looked := rank.First(xs, x1)
	to, seen := rank.Above(xs, x2)
	leaves, _ := frame.New(len(row))
	nodes := leaves.Nodes()
	met := map[int]int{}
	places, _, _ := leaves.Canon(from, to)
	for _, place := range places {
		met[place]++
	}
	for _, p := range told[:max(0, len(told)-1)] {
		path, _ := leaves.Path(slices.Index(row, p))
		for i := len(path) - 1; met[path[i]] == 0; i-- {
			over := nodes[path[i-1]]
			met[over.L+over.R-path[i]]++
		}
	}
	return looked + seen + len(met)
}

func TestWhatIsTouchedHasCellsAndNodes(t *testing.T) {
	l := samples.Points(100, 60)
	v, _ := Build(l)
	row := slices.SortedFunc(slices.Values(l), item.ByX)
	for _, b := range samples.BoxesAt(l) {
		if b.X1 > b.X2 {
			continue
		}
		for _, k := range []int{1, 2, 10, 100} {
			told, touched := v.Lows(b.X1, b.X2, k)
			if fewest := looks(row, b.X1, b.X2, told); touched < fewest {
				t.Fatalf("the %d lowest from %d to %d: %d touched, but %d are cells and nodes", k, b.X1, b.X2, touched, fewest)
			}
		}
		p, found, touched := v.Lowest(b.X1, b.X2)
		if fewest := looks(row, b.X1, b.X2, nil); touched < fewest {
			t.Fatalf("Lowest from %d to %d: %v, %t: %d touched, but %d are cells and nodes", b.X1, b.X2, p, found, touched, fewest)
		}
	}
}

package cascade

import (
	"gridiron/alive"
	"gridiron/api"
)

// knot is a node of the frame, with its list.
type knot struct {
	api.Node
	names   alive.Names // of its points, by Y
	bridges []int       // at each place of the list, and at the one behind all; a leaf has none
}

// left tells which place of the left kid's list one of this list is.
func (k *knot) left(place int) int {
	return k.bridges[place]
}

// right tells which place of the right kid's list one of this list is.
func (k *knot) right(place int) int {
	return place - k.bridges[place]
}

// seat is where a point stands: at which leaf.
type seat struct {
	leaf int
	name uint32
}

// names are those of the points that stand there.
func names(l []seat) []uint32 {
	var names []uint32
	for _, s := range l {
		names = append(names, s.name)
	}
	return names
}

// ask is what goes down from the root: for which leaves, from the one on, ahead of the end, and what is told of the nodes that make them up.
type ask struct {
	knots     []knot
	leaf, end int
	tell      func(l *alive.Names, from, to int) int
}

// enter enters a node with two places of its list, and tells how many things were touched there and below it.
func (a *ask) enter(node, from, to int) int {
	k := &a.knots[node]
	// Where no place is left, no kid's list has one.
	if from == to || k.To <= a.leaf || a.end <= k.From {
		return 1
	}
	if a.leaf <= k.From && k.To <= a.end {
		return 1 + a.tell(&k.names, from, to)
	}
	left := a.enter(k.L, k.left(from), k.left(to))
	return 1 + left + a.enter(k.R, k.right(from), k.right(to))
}

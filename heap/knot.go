package heap

import (
	"gridiron/api"
	"gridiron/item"
)

// knot is a node of the frame, with the point that it holds.
type knot struct {
	api.Node
	held *api.Point // nil, if it holds none: then none of those below it does
}

// isAhead tells whether what one node holds stands ahead, by Y, of what another one does; to hold none is to stand behind all.
func isAhead(p, q *api.Point) bool {
	return p != nil && (q == nil || item.ByY(*p, *q) < 0)
}

// ask is what goes down from the root: for which leaves, from the one on, ahead of the end, and which points, and who is told of each; touched is how many things were, so far.
type ask struct {
	knots     []knot
	leaf, end int
	sides     api.Box
	tell      func(p api.Point) bool // it answers whether more are asked for
	touched   int
}

// enter enters a node, and then those below it that may hold more, as long as more are asked for: whether that is so yet is what it tells.
func (a *ask) enter(node int) bool {
	a.touched++
	k := &a.knots[node]
	// Whoever is below a node that holds none, or one that is too high, does so too.
	if k.To <= a.leaf || a.end <= k.From || k.held == nil || k.held.Y > a.sides.Y2 {
		return true
	}
	if item.In(*k.held, a.sides) && !a.tell(*k.held) {
		return false
	}
	return k.Kind == api.Leaf || a.enter(k.L) && a.enter(k.R)
}

package low

import (
	"gridiron/api"
	"gridiron/item"
)

// none is the best of a node none of whose points is there.
const none = -1

// knot is a node of the frame, with its best.
type knot struct {
	api.Node
	best int // a place of the row, or none
}

// choose makes the lower one of what both kids have a node's best.
func (t *Low) choose(node int) {
	k := &t.knots[node]
	k.best = t.lower(t.knots[k.L].best, t.knots[k.R].best)
}

// lower tells which of two bests is the lower one; to have none is to stand behind all.
func (t *Low) lower(p, q int) int {
	if q == none || p != none && t.isLower(p, q) {
		return p
	}
	return q
}

// isLower tells whether the point at one place of the row is lower than that at another one.
func (t *Low) isLower(p, q int) bool {
	return item.ByY(t.point(p), t.point(q)) < 0
}

// point is the one at this place of the row.
func (t *Low) point(place int) api.Point {
	return api.Point{X: t.row.At[place], Y: t.ys[place], ID: t.row.Names[place]}
}

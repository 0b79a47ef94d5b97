package item

import (
	"cmp"

	"gridiron/api"
)

// ByX tells -1, 0 or 1, as p stands ahead of q by X and then ID, neither does, or q does.
func ByX(p, q api.Point) int {
	return order(cmp.Compare(p.X, q.X), cmp.Compare(p.ID, q.ID))
}

// ByY tells the same by Y and then ID.
func ByY(p, q api.Point) int {
	return order(cmp.Compare(p.Y, q.Y), cmp.Compare(p.ID, q.ID))
}

// ByLo tells the same of spans by Lo and then ID.
func ByLo(s, t api.Span) int {
	return order(cmp.Compare(s.Lo, t.Lo), cmp.Compare(s.ID, t.ID))
}

// ByHi tells the same of spans by Hi and then ID.
func ByHi(s, t api.Span) int {
	return order(cmp.Compare(s.Hi, t.Hi), cmp.Compare(s.ID, t.ID))
}

// order tells the first of the steps that is not 0: a later one counts only where all ahead of it are the same.
func order(steps ...int) int {
	for _, step := range steps {
		if step != 0 {
			return step
		}
	}
	return 0
}

package corner

import (
	"math"

	"gridiron/api"
)

// greatestWay is the last of the ways that there are.
const greatestWay = 3

// corner is the box that has what the corner at x, y has, that way; false, if there is no such way.
func corner(x, y int64, way uint8) (api.Box, bool) {
	if way > greatestWay {
		return api.Box{}, false
	}
	return box(from(x, way%2 == 1), from(y, way >= 2)), true
}

// side is which numbers a box has of one coordinate: from the one to the other, none if they are the wrong way round.
type side struct {
	lo, hi int64
}

// box is that of these sides.
func box(x, y side) api.Box {
	return api.Box{X1: x.lo, X2: x.hi, Y1: y.lo, Y2: y.hi}
}

// at has that number alone.
func at(n int64) side {
	return side{lo: n, hi: n}
}

// from has n, and all numbers from there on that way.
func from(n int64, up bool) side {
	if up {
		return side{lo: n, hi: math.MaxInt64}
	}
	return side{lo: math.MinInt64, hi: n}
}

// past has what from has, but for n.
func past(n int64, up bool) side {
	s := from(n, up)
	switch {
	case s.lo == s.hi:
		// Beside the last number that way there would be the last one of the other way.
		return side{lo: 1, hi: 0}
	case up:
		s.lo++
	default:
		s.hi--
	}
	return s
}

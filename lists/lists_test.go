package lists_test

import (
	"math"
	"slices"
	"testing"

	"gridiron/api"
	"gridiron/lists"
)

func TestWhichSpansAreRight(t *testing.T) {
	cases := []struct {
		name string
		l    []api.Span
		want bool
	}{
		{"none", nil, true},
		{"one number", []api.Span{{Lo: 3, Hi: 3}}, true},
		{"all numbers", []api.Span{{Lo: math.MinInt64, Hi: math.MaxInt64, ID: math.MaxUint32}}, true},
		{"the same ends, unlike names", []api.Span{{Lo: 1, Hi: 2, ID: 0}, {Lo: 1, Hi: 2, ID: 1}}, true},
		{"the wrong way round", []api.Span{{Lo: 1, Hi: 2, ID: 0}, {Lo: 2, Hi: 1, ID: 1}}, false},
		{"one name twice", []api.Span{{Lo: 1, Hi: 2, ID: 5}, {Lo: 1, Hi: 2, ID: 6}, {Lo: 3, Hi: 4, ID: 5}}, false},
	}
	for _, c := range cases {
		t.Run(c.name, func(t *testing.T) {
			if got := lists.RightSpans(c.l); got != c.want {
				t.Errorf("RightSpans of %v: %t", c.l, got)
			}
		})
	}
}

func TestWhichPointsAreRight(t *testing.T) {
	cases := []struct {
		name string
		l    []api.Point
		want bool
	}{
		{"none", nil, true},
		{"one", []api.Point{{X: math.MinInt64, Y: math.MaxInt64, ID: math.MaxUint32}}, true},
		{"the same place, unlike names", []api.Point{{X: 1, Y: 2, ID: 0}, {X: 1, Y: 2, ID: 1}}, true},
		{"one name twice", []api.Point{{X: 1, Y: 2, ID: 5}, {X: 1, Y: 2, ID: 6}, {X: 3, Y: 4, ID: 5}}, false},
		{"the same point twice", []api.Point{{ID: 0}, {ID: 0}}, false},
	}
	for _, c := range cases {
		t.Run(c.name, func(t *testing.T) {
			if got := lists.RightPoints(c.l); got != c.want {
				t.Errorf("RightPoints of %v: %t", c.l, got)
			}
		})
	}
}

func TestEnds(t *testing.T) {
	l := []api.Span{{Lo: 4, Hi: 9}, {Lo: -2, Hi: 4}, {Lo: 6, Hi: 6}, {Lo: math.MinInt64, Hi: math.MaxInt64}}
	if got := lists.Ends(l); !slices.Equal(got, []int64{math.MinInt64, -2, 4, 6, 9, math.MaxInt64}) {
		t.Errorf("Ends of %v: %v", l, got)
	}
	if got := lists.Ends(nil); len(got) != 0 {
		t.Errorf("Ends of no spans: %v", got)
	}
}

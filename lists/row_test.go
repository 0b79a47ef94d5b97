package lists_test

import (
	"math"
	"slices"
	"testing"

	"gridiron/lists"
	"gridiron/samples"
)

func TestPointsInARowByX(t *testing.T) {
	l := samples.Points(200, 20)
	given := slices.Clone(l)
	r := lists.ByX(l)
	if !slices.Equal(l, given) {
		t.Error("ByX changes its list")
	}
	if len(r.At) != len(l) || len(r.Names) != len(l) {
		t.Fatalf("of %d points: %d and %d", len(l), len(r.At), len(r.Names))
	}
	for place := 1; place < len(l); place++ {
		if r.At[place-1] > r.At[place] || r.At[place-1] == r.At[place] && r.Names[place-1] >= r.Names[place] {
			t.Fatalf("at place %d stands %d, %d; ahead of it %d, %d", place, r.At[place], r.Names[place], r.At[place-1], r.Names[place-1])
		}
	}
	for _, p := range l {
		place, ok := r.Find(p.X, p.ID)
		if !ok || r.At[place] != p.X || r.Names[place] != p.ID {
			t.Fatalf("Find of %v: %d, %t", p, place, ok)
		}
		if _, ok := r.Find(p.X+1, p.ID); ok {
			t.Fatalf("Find of %v, one on: it is there", p)
		}
	}
	for _, name := range []uint32{1, math.MaxUint32} {
		if _, ok := r.Find(l[0].X, name); ok {
			t.Errorf("Find of %d: it is there", name)
		}
	}
}

func TestBetween(t *testing.T) {
	var r lists.Row
	for i, at := range []int64{1, 3, 3, 7} {
		r.Add(at, uint32(i))
	}
	cases := []struct {
		lo, hi   int64
		from, to int
	}{
		{1, 7, 0, 4}, {3, 3, 1, 3}, {2, 6, 1, 3}, {4, 6, 3, 3}, {-5, 0, 0, 0}, {8, 9, 4, 4}, {7, 7, 3, 4},
		{math.MinInt64, math.MaxInt64, 0, 4}, {math.MinInt64, 1, 0, 1}, {7, math.MaxInt64, 3, 4},
	}
	for _, c := range cases {
		if from, to, looked := r.Between(c.lo, c.hi); from != c.from || to != c.to || looked < 2 || looked > 2*samples.Log(5) {
			t.Errorf("from %d to %d: from place %d on, ahead of %d, %d looked at; not %d, %d", c.lo, c.hi, from, to, looked, c.from, c.to)
		}
	}
	var none lists.Row
	if from, to, looked := none.Between(math.MinInt64, math.MaxInt64); from != 0 || to != 0 || looked != 0 {
		t.Errorf("of none: %d, %d, %d", from, to, looked)
	}
	if place, ok := none.Find(0, 0); place != 0 || ok {
		t.Errorf("Find in none: %d, %t", place, ok)
	}
}

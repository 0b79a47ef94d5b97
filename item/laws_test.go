package item_test

import (
	"slices"
	"testing"

	"gridiron/api"
	"gridiron/item"
)

// P2.4

func TestJustOneStandsAhead(t *testing.T) {
	for by, order := range orders() {
		for _, a := range keys() {
			for _, b := range keys() {
				there, back := order(a, b), order(b, a)
				if there != -back || (there == 0) != (a == b) || there < -1 || there > 1 {
					t.Errorf("%s of %v and %v: %d; the other way about: %d", by, a, b, there, back)
				}
			}
		}
	}
}

func TestAheadGoesOn(t *testing.T) {
	for by, order := range orders() {
		for _, a := range keys() {
			for _, b := range keys() {
				if order(a, b) >= 0 {
					continue
				}
				for _, c := range keys() {
					if order(b, c) < 0 && order(a, c) >= 0 {
						t.Fatalf("%s: %v is ahead of %v, and that of %v, but not the first of the third", by, a, b, c)
					}
				}
			}
		}
	}
}

func TestOrdersPutAListInOrder(t *testing.T) {
	for by, order := range orders() {
		list := keys()
		slices.Reverse(list)
		for i := range list {
			j := i * 31 % len(list)
			list[i], list[j] = list[j], list[i]
		}
		slices.SortFunc(list, order)
		if !slices.Equal(list, keys()) {
			t.Errorf("%s puts keys in another order: %v", by, list)
		}
	}
}

// corners are points at all pairs of places; ids are mixed, as over does not ask for them.
func corners() []api.Point {
	var list []api.Point
	for i, x := range places() {
		for j, y := range places() {
			list = append(list, api.Point{X: x, Y: y, ID: uint32(i*31+j*17) % 5})
		}
	}
	return list
}

func TestNobodyIsOverItself(t *testing.T) {
	for _, p := range corners() {
		for _, id := range ids() {
			if item.Over(p, api.Point{X: p.X, Y: p.Y, ID: id}) {
				t.Errorf("%v is over itself with id %d", p, id)
			}
		}
	}
}

func TestOverGoesOn(t *testing.T) {
	for _, p := range corners() {
		for _, q := range corners() {
			if !item.Over(p, q) {
				continue
			}
			if item.Over(q, p) {
				t.Fatalf("%v and %v are over each other", p, q)
			}
			for _, r := range corners() {
				if item.Over(q, r) && !item.Over(p, r) {
					t.Fatalf("%v is over %v, and that over %v, but not the first over the third", p, q, r)
				}
			}
		}
	}
}

func TestWhoMeetsHoldsTheGreaterLowerEnd(t *testing.T) {
	met := 0
	for _, from := range places() {
		for _, to := range places() {
			s := api.Span{Lo: from, Hi: to, ID: 7}
			for _, lo := range places() {
				for _, hi := range places() {
					end := max(s.Lo, lo)
					meets := item.Meet(s, lo, hi)
					if meets != (item.Stab(s, end) && item.Stab(api.Span{Lo: lo, Hi: hi}, end)) {
						t.Errorf("Meet(%v, %d, %d) = %v, but %d is held or not", s, lo, hi, meets, end)
					}
					if meets {
						met++
					}
				}
			}
		}
	}
	if met == 0 {
		t.Error("no span met any ends")
	}
}

// counted is 1 where a box covers the cell, else 0.
func counted(b api.Box, x, y int64) int {
	if item.Cell(b, x, y) {
		return 1
	}
	return 0
}

// checkHalves fails at a cell that both halves together do not cover just as often as the whole.
func checkHalves(t *testing.T, whole, low, high api.Box, at []int64) {
	t.Helper()
	for _, x := range at {
		for _, y := range at {
			if counted(low, x, y)+counted(high, x, y) != counted(whole, x, y) {
				t.Fatalf("%v, cut into %v and %v: the cell %d %d is not covered once, as it was", whole, low, high, x, y)
			}
		}
	}
}

func TestABoxCutInTwo(t *testing.T) {
	near := []int64{-little - 1, -3, -2, -1, 0, 1, 2, 3, little + 1}
	for _, b := range boxes() {
		checkCuts(t, b, near)
	}
	for _, x := range places() {
		for _, y := range places() {
			checkCuts(t, api.Box{X1: x, X2: greatest, Y1: y, Y2: greatest}, places())
			checkCuts(t, api.Box{X1: least, X2: x, Y1: least, Y2: y}, places())
		}
	}
}

// checkCuts cuts a box, right or not, both ways at each place between its sides, these too.
func checkCuts(t *testing.T, b api.Box, at []int64) {
	t.Helper()
	for _, cut := range at {
		if min(b.X1, b.X2) <= cut && cut <= max(b.X1, b.X2) {
			low, high := b, b
			low.X2, high.X1 = cut, cut
			checkHalves(t, b, low, high, at)
		}
		if min(b.Y1, b.Y2) <= cut && cut <= max(b.Y1, b.Y2) {
			low, high := b, b
			low.Y2, high.Y1 = cut, cut
			checkHalves(t, b, low, high, at)
		}
	}
}

package item_test

import (
	"testing"

	"gridiron/api"
	"gridiron/item"
)

// little is how far tests go that count numbers one by one.
const little = 3

// spans are all with ends from -little to little, right or not.
func spans() []api.Span {
	var list []api.Span
	for lo := int64(-little); lo <= little; lo++ {
		for hi := int64(-little); hi <= little; hi++ {
			list = append(list, api.Span{Lo: lo, Hi: hi, ID: 7})
		}
	}
	return list
}

// boxes are all pairs of spans, as their sides.
func boxes() []api.Box {
	var list []api.Box
	for _, x := range spans() {
		for _, y := range spans() {
			list = append(list, api.Box{X1: x.Lo, X2: x.Hi, Y1: y.Lo, Y2: y.Hi, ID: 7})
		}
	}
	return list
}

// held lists the numbers that a span holds, counted from its lower end on.
func held(lo, hi int64) map[int64]int {
	list := map[int64]int{}
	for x := lo; x <= hi; x++ {
		list[x]++
	}
	return list
}

// P2.2

func TestStab(t *testing.T) {
	cases := []struct {
		lo, hi, x int64
		want      bool
	}{
		{2, 5, 1, false}, {2, 5, 2, true}, {2, 5, 3, true}, {2, 5, 5, true}, {2, 5, 6, false},
		{2, 2, 1, false}, {2, 2, 2, true}, {2, 2, 3, false},
		{2, 1, 1, false}, {2, 1, 2, false}, {5, -5, 0, false},
		{least, greatest, least, true}, {least, greatest, 0, true}, {least, greatest, greatest, true},
		{least, least, least, true}, {least, least, least + 1, false}, {least, least, greatest, false},
		{greatest, greatest, greatest, true}, {greatest, greatest, greatest - 1, false}, {greatest, greatest, least, false},
		{greatest, least, least, false}, {greatest, least, greatest, false}, {greatest, least, 0, false},
		{least + 1, greatest - 1, least, false}, {least + 1, greatest - 1, greatest, false},
	}
	for _, c := range cases {
		if got := item.Stab(api.Span{Lo: c.lo, Hi: c.hi, ID: 7}, c.x); got != c.want {
			t.Errorf("Stab(%d to %d, %d) = %v", c.lo, c.hi, c.x, got)
		}
	}
	for _, s := range spans() {
		list := held(s.Lo, s.Hi)
		for x := int64(-little - 1); x <= little+1; x++ {
			if got := item.Stab(s, x); got != (list[x] > 0) {
				t.Errorf("Stab(%v, %d) = %v", s, x, got)
			}
		}
	}
}

func TestMeet(t *testing.T) {
	cases := []struct {
		name           string
		lo, hi         int64
		fromLo, fromHi int64
		want           bool
	}{
		{"inside", 2, 9, 4, 6, true},
		{"about it", 4, 6, 2, 9, true},
		{"the same", 2, 9, 2, 9, true},
		{"over the lower end", 2, 9, 0, 4, true},
		{"over the upper end", 2, 9, 7, 12, true},
		{"at the lower end", 2, 9, 0, 2, true},
		{"at the upper end", 2, 9, 9, 12, true},
		{"next below", 2, 9, 0, 1, false},
		{"next above", 2, 9, 10, 12, false},
		{"one number", 2, 2, 2, 2, true},
		{"one number, not held", 2, 2, 3, 3, false},
		{"ends the wrong way round, inside", 2, 9, 6, 4, false},
		{"ends the wrong way round, about it", 4, 6, 9, 2, false},
		{"ends the wrong way round by one", 2, 9, 6, 5, false},
		{"a span that is not right", 2, 1, 0, 9, false},
		{"a span that is not right, ends between", 9, 2, 4, 6, false},
		{"neither is right", 9, 2, 6, 4, false},
		{"neither is right, the same ends", 2, 1, 2, 1, false},
		{"all and all", least, greatest, least, greatest, true},
		{"all and the least", least, greatest, least, least, true},
		{"all and the greatest", least, greatest, greatest, greatest, true},
		{"all the wrong way round", least, greatest, greatest, least, false},
		{"a span that holds nothing of all", greatest, least, least, greatest, false},
		{"the least and the greatest", least, least, greatest, greatest, false},
		{"the greatest and the least", greatest, greatest, least, least, false},
		{"both halves", least, -1, 0, greatest, false},
		{"both halves, and one more", least, 0, 0, greatest, true},
	}
	for _, c := range cases {
		if got := item.Meet(api.Span{Lo: c.lo, Hi: c.hi, ID: 7}, c.fromLo, c.fromHi); got != c.want {
			t.Errorf("%s: Meet(%d to %d, %d, %d) = %v", c.name, c.lo, c.hi, c.fromLo, c.fromHi, got)
		}
	}
	for _, s := range spans() {
		list := held(s.Lo, s.Hi)
		for _, ends := range spans() {
			shared := 0
			for x := range held(ends.Lo, ends.Hi) {
				shared += list[x]
			}
			if got := item.Meet(s, ends.Lo, ends.Hi); got != (shared > 0) {
				t.Errorf("Meet(%v, %d, %d) = %v; they share %d numbers", s, ends.Lo, ends.Hi, got, shared)
			}
		}
	}
}

func TestIn(t *testing.T) {
	square := api.Box{X1: 0, X2: 2, Y1: 0, Y2: 2, ID: 7}
	all := api.Box{X1: least, X2: greatest, Y1: least, Y2: greatest}
	cases := []struct {
		name string
		b    api.Box
		x, y int64
		want bool
	}{
		{"inside", square, 1, 1, true},
		{"the lower corner", square, 0, 0, true},
		{"the upper corner", square, 2, 2, true},
		{"the other corners", square, 0, 2, true},
		{"the other corners", square, 2, 0, true},
		{"left of the rim", square, -1, 1, false},
		{"right of the rim", square, 3, 1, false},
		{"below the rim", square, 1, -1, false},
		{"above the rim", square, 1, 3, false},
		{"one point", api.Box{X1: 4, X2: 4, Y1: 5, Y2: 5}, 4, 5, true},
		{"one point, sides mixed up", api.Box{X1: 4, X2: 4, Y1: 5, Y2: 5}, 5, 4, false},
		{"flat", api.Box{X1: 1, X2: 3, Y1: -1, Y2: -1}, 2, -1, true},
		{"beside a flat one", api.Box{X1: 1, X2: 3, Y1: -1, Y2: -1}, 2, 0, false},
		{"not right in X", api.Box{X1: 2, X2: 0, Y1: 0, Y2: 2}, 1, 1, false},
		{"not right in X, at its rim", api.Box{X1: 2, X2: 0, Y1: 0, Y2: 2}, 2, 0, false},
		{"not right in Y", api.Box{X1: 0, X2: 2, Y1: 2, Y2: 0}, 1, 1, false},
		{"not right in both", api.Box{X1: 2, X2: 0, Y1: 2, Y2: 0}, 1, 1, false},
		{"all, the least corner", all, least, least, true},
		{"all, the greatest corner", all, greatest, greatest, true},
		{"all, the other corners", all, least, greatest, true},
		{"all, the other corners", all, greatest, least, true},
		{"all the wrong way round", api.Box{X1: greatest, X2: least, Y1: greatest, Y2: least}, 0, 0, false},
		{"the least point", api.Box{X1: least, X2: least, Y1: least, Y2: least}, greatest, least, false},
		{"the greatest point", api.Box{X1: greatest, X2: greatest, Y1: greatest, Y2: greatest}, greatest, greatest, true},
	}
	for _, c := range cases {
		if got := item.In(api.Point{X: c.x, Y: c.y, ID: 9}, c.b); got != c.want {
			t.Errorf("%s: In(%d %d, %v) = %v", c.name, c.x, c.y, c.b, got)
		}
	}
}

func TestInAgainstACount(t *testing.T) {
	for _, b := range boxes() {
		xs, ys := held(b.X1, b.X2), held(b.Y1, b.Y2)
		for x := int64(-little - 1); x <= little+1; x++ {
			for y := int64(-little - 1); y <= little+1; y++ {
				if got := item.In(api.Point{X: x, Y: y}, b); got != (xs[x] > 0 && ys[y] > 0) {
					t.Fatalf("In(%d %d, %v) = %v", x, y, b, got)
				}
			}
		}
	}
}

func TestRight(t *testing.T) {
	for i, lo := range places() {
		for j, hi := range places() {
			right := i <= j // the places rise
			if got := item.RightSpan(api.Span{Lo: lo, Hi: hi, ID: 7}); got != right {
				t.Errorf("RightSpan(%d to %d) = %v", lo, hi, got)
			}
			cases := []struct {
				name string
				b    api.Box
				want bool
			}{
				{"these sides in X", api.Box{X1: lo, X2: hi, Y1: 3, Y2: 3, ID: 7}, right},
				{"these sides in Y", api.Box{X1: 3, X2: 3, Y1: lo, Y2: hi, ID: 7}, right},
				{"these sides in both", api.Box{X1: lo, X2: hi, Y1: lo, Y2: hi}, right},
				{"not right in Y anyway", api.Box{X1: lo, X2: hi, Y1: 4, Y2: 3}, false},
				{"not right in X anyway", api.Box{X1: 4, X2: 3, Y1: lo, Y2: hi}, false},
			}
			for _, c := range cases {
				if got := item.RightBox(c.b); got != c.want {
					t.Errorf("%s: RightBox(%v) = %v", c.name, c.b, got)
				}
			}
		}
	}
	if !item.RightSpan(api.Span{}) || !item.RightBox(api.Box{}) {
		t.Error("zeros are right")
	}
}

// P2.3

func TestOver(t *testing.T) {
	cases := []struct {
		name string
		p, q api.Point
		want bool
	}{
		{"more in both", api.Point{X: 4, Y: 5}, api.Point{X: 3, Y: 1}, true},
		{"more in X, the same Y", api.Point{X: 4, Y: 5}, api.Point{X: 3, Y: 5}, true},
		{"more in Y, the same X", api.Point{X: 3, Y: 4, ID: 9}, api.Point{X: 3, Y: 1, ID: 2}, true},
		{"less in both", api.Point{X: 3, Y: 1}, api.Point{X: 4, Y: 5}, false},
		{"less in X, the same Y", api.Point{X: 3, Y: 5}, api.Point{X: 4, Y: 5}, false},
		{"less in Y, the same X", api.Point{X: 3, Y: 1}, api.Point{X: 3, Y: 4}, false},
		{"more in X, less in Y", api.Point{X: 4, Y: 1}, api.Point{X: 3, Y: 5}, false},
		{"less in X, more in Y", api.Point{X: 3, Y: 5}, api.Point{X: 4, Y: 1}, false},
		{"the same place", api.Point{X: 3, Y: 4, ID: 1}, api.Point{X: 3, Y: 4, ID: 1}, false},
		{"the same place, a greater id", api.Point{X: 3, Y: 4, ID: 9}, api.Point{X: 3, Y: 4, ID: 1}, false},
		{"the same place, a lesser id", api.Point{X: 3, Y: 4, ID: 1}, api.Point{X: 3, Y: 4, ID: 9}, false},
		{"the greatest and the least", api.Point{X: greatest, Y: greatest}, api.Point{X: least, Y: least}, true},
		{"the least and the greatest", api.Point{X: least, Y: least}, api.Point{X: greatest, Y: greatest}, false},
		{"corners that face each other", api.Point{X: least, Y: greatest}, api.Point{X: greatest, Y: least}, false},
		{"corners that face each other", api.Point{X: greatest, Y: least}, api.Point{X: least, Y: greatest}, false},
		{"the greatest X, the least Y of both", api.Point{X: greatest, Y: least}, api.Point{X: least, Y: least}, true},
	}
	for _, c := range cases {
		if got := item.Over(c.p, c.q); got != c.want {
			t.Errorf("%s: Over(%v, %v) = %v", c.name, c.p, c.q, got)
		}
	}
}

func TestCell(t *testing.T) {
	square := api.Box{X1: 0, X2: 2, Y1: 0, Y2: 2, ID: 7}
	all := api.Box{X1: least, X2: greatest, Y1: least, Y2: greatest}
	cases := []struct {
		name string
		b    api.Box
		x, y int64
		want bool
	}{
		{"the square", square, 0, 0, true},
		{"the square", square, 0, 1, true},
		{"the square", square, 1, 0, true},
		{"the square", square, 1, 1, true},
		{"at the right rim", square, 2, 1, false},
		{"at the upper rim", square, 1, 2, false},
		{"at the upper corner", square, 2, 2, false},
		{"left of it", square, -1, 0, false},
		{"below it", square, 0, -1, false},
		{"no width", api.Box{X1: 0, X2: 0, Y1: 0, Y2: 5}, 0, 0, false},
		{"no height", api.Box{X1: 0, X2: 5, Y1: 0, Y2: 0}, 0, 0, false},
		{"a point", api.Box{X1: 3, X2: 3, Y1: 3, Y2: 3}, 3, 3, false},
		{"not right in X", api.Box{X1: 2, X2: 0, Y1: 0, Y2: 2}, 1, 1, false},
		{"not right in Y", api.Box{X1: 0, X2: 2, Y1: 2, Y2: 0}, 1, 1, false},
		{"not right in both", api.Box{X1: 2, X2: 0, Y1: 2, Y2: 0}, 1, 1, false},
		{"all, the least cell", all, least, least, true},
		{"all, the greatest cell", all, greatest - 1, greatest - 1, true},
		{"all, past its right rim", all, greatest, 0, false},
		{"all, past its upper rim", all, 0, greatest, false},
		{"all, past both", all, greatest, greatest, false},
		{"all the wrong way round", api.Box{X1: greatest, X2: least, Y1: greatest, Y2: least}, 0, 0, false},
		{"the greatest point", api.Box{X1: greatest, X2: greatest, Y1: greatest, Y2: greatest}, greatest, greatest, false},
		{"the least point", api.Box{X1: least, X2: least, Y1: least, Y2: least}, least, least, false},
	}
	for _, c := range cases {
		if got := item.Cell(c.b, c.x, c.y); got != c.want {
			t.Errorf("%s: Cell(%v, %d, %d) = %v", c.name, c.b, c.x, c.y, got)
		}
	}
}

func TestCellAgainstACount(t *testing.T) {
	for _, b := range boxes() {
		xs, ys := held(b.X1, b.X2-1), held(b.Y1, b.Y2-1)
		for x := int64(-little - 1); x <= little+1; x++ {
			for y := int64(-little - 1); y <= little+1; y++ {
				if got := item.Cell(b, x, y); got != (xs[x] > 0 && ys[y] > 0) {
					t.Fatalf("Cell(%v, %d, %d) = %v", b, x, y, got)
				}
			}
		}
	}
}

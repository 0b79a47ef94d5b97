package item_test

import (
	"math"
	"math/big"
	"testing"

	"gridiron/api"
	"gridiron/item"
)

const (
	least    = math.MinInt64
	greatest = math.MaxInt64
	lastID   = math.MaxUint32
)

// places are numbers about the ends of 64 bits, of 32 bits and of the signs: at the far ends a difference of two wraps round.
func places() []int64 {
	return []int64{
		least, least + 1, -1 << 32, -2, -1, 0, 1, 2, 1<<32 - 1, 1 << 32, greatest - 1, greatest,
	}
}

func ids() []uint32 {
	return []uint32{0, 1, 2, 1<<31 - 1, 1 << 31, lastID - 1, lastID}
}

func keys() []api.Key {
	var list []api.Key
	for _, at := range places() {
		for _, id := range ids() {
			list = append(list, api.Key{At: at, ID: id})
		}
	}
	return list
}

// orders are the four, each asked of two keys; what does not count is laid so that it would turn the answer about.
func orders() map[string]func(a, b api.Key) int {
	return map[string]func(a, b api.Key) int{
		"ByX": func(a, b api.Key) int {
			return item.ByX(api.Point{X: a.At, Y: ^a.At, ID: a.ID}, api.Point{X: b.At, Y: ^b.At, ID: b.ID})
		},
		"ByY": func(a, b api.Key) int {
			return item.ByY(api.Point{X: ^a.At, Y: a.At, ID: a.ID}, api.Point{X: ^b.At, Y: b.At, ID: b.ID})
		},
		"ByLo": func(a, b api.Key) int {
			return item.ByLo(api.Span{Lo: a.At, Hi: ^a.At, ID: a.ID}, api.Span{Lo: b.At, Hi: ^b.At, ID: b.ID})
		},
		"ByHi": func(a, b api.Key) int {
			return item.ByHi(api.Span{Lo: ^a.At, Hi: a.At, ID: a.ID}, api.Span{Lo: ^b.At, Hi: b.At, ID: b.ID})
		},
	}
}

// bigOf tells one number that is in order just as the key is.
func bigOf(k api.Key) *big.Int {
	n := big.NewInt(k.At)
	n.Lsh(n, 32)
	return n.Add(n, big.NewInt(int64(k.ID)))
}

// P2.1

func TestOrders(t *testing.T) {
	cases := []struct {
		name string
		a, b api.Key
		want int
	}{
		{"a lesser place, a greater id", api.Key{At: 3, ID: 9}, api.Key{At: 4, ID: 2}, -1},
		{"a greater place, a lesser id", api.Key{At: 4, ID: 2}, api.Key{At: 3, ID: 9}, 1},
		{"the same place, a lesser id", api.Key{At: 3, ID: 2}, api.Key{At: 3, ID: 9}, -1},
		{"the same place, a greater id", api.Key{At: 3, ID: 9}, api.Key{At: 3, ID: 2}, 1},
		{"the same place and id", api.Key{At: 3, ID: 9}, api.Key{At: 3, ID: 9}, 0},
		{"zeros", api.Key{}, api.Key{}, 0},
		{"below 0 and above", api.Key{At: -1, ID: 1}, api.Key{At: 1}, -1},
		{"the least and the greatest place", api.Key{At: least, ID: 1}, api.Key{At: greatest}, -1},
		{"the greatest and the least place", api.Key{At: greatest}, api.Key{At: least, ID: 1}, 1},
		{"the least place and 1", api.Key{At: least, ID: 1}, api.Key{At: 1}, -1},
		{"the greatest place and -1", api.Key{At: greatest}, api.Key{At: -1, ID: 1}, 1},
		{"the least place, unlike ids", api.Key{At: least, ID: 1}, api.Key{At: least}, 1},
		{"the greatest place, unlike ids", api.Key{At: greatest}, api.Key{At: greatest, ID: 1}, -1},
		{"the first and the last id", api.Key{ID: 0}, api.Key{ID: lastID}, -1},
		{"the last and the first id", api.Key{ID: lastID}, api.Key{ID: 0}, 1},
		{"ids about 2^31", api.Key{ID: 1<<31 - 1}, api.Key{ID: 1 << 31}, -1},
		{"places that are alike in their lower halves", api.Key{At: 1 << 32}, api.Key{At: 0}, 1},
	}
	for by, order := range orders() {
		for _, c := range cases {
			if got := order(c.a, c.b); got != c.want {
				t.Errorf("%s, %s: of %v and %v: %d; want %d", by, c.name, c.a, c.b, got, c.want)
			}
		}
	}
}

func TestOrdersAgainstBig(t *testing.T) {
	for by, order := range orders() {
		for _, a := range keys() {
			for _, b := range keys() {
				if got, want := order(a, b), bigOf(a).Cmp(bigOf(b)); got != want {
					t.Errorf("%s of %v and %v: %d; want %d", by, a, b, got, want)
				}
			}
		}
	}
}

func TestOrdersAskNothingElse(t *testing.T) {
	for _, other := range places() {
		p, q := api.Point{X: 3, Y: 5, ID: 7}, api.Point{X: 3, Y: other, ID: 7}
		if got := item.ByX(p, q); got != 0 {
			t.Errorf("ByX(%v, %v) = %d; want 0", p, q, got)
		}
		p, q = api.Point{X: 5, Y: 3, ID: 7}, api.Point{X: other, Y: 3, ID: 7}
		if got := item.ByY(p, q); got != 0 {
			t.Errorf("ByY(%v, %v) = %d; want 0", p, q, got)
		}
		r, s := api.Span{Lo: 3, Hi: 5, ID: 7}, api.Span{Lo: 3, Hi: other, ID: 7}
		if got := item.ByLo(r, s); got != 0 {
			t.Errorf("ByLo(%v, %v) = %d; want 0", r, s, got)
		}
		r, s = api.Span{Lo: 5, Hi: 3, ID: 7}, api.Span{Lo: other, Hi: 3, ID: 7}
		if got := item.ByHi(r, s); got != 0 {
			t.Errorf("ByHi(%v, %v) = %d; want 0", r, s, got)
		}
	}
}

func TestOrdersOfTheChaptersExample(t *testing.T) {
	p, q := api.Point{X: 3, Y: 4, ID: 9}, api.Point{X: 3, Y: 1, ID: 2}
	if item.ByX(p, q) != 1 || item.ByY(p, q) != 1 || item.ByX(q, p) != -1 || item.ByY(q, p) != -1 {
		t.Errorf("%v and %v: ByX %d, ByY %d", p, q, item.ByX(p, q), item.ByY(p, q))
	}
}

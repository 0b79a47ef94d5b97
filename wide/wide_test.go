package wide_test

import (
	"math"
	"math/big"
	"testing"

	"gridiron/api"
	"gridiron/wide"
)

const most = math.MaxUint64

var (
	nothing  = api.Wide{}
	greatest = api.Wide{High: most, Low: most}
)

// words are numbers of 64 bits about the places where halves, groups of digits and signs end, and a fixed row of mixed ones.
func words() []uint64 {
	list := []uint64{
		0, 1, 2, 9, 10, 11, 999, 1000,
		1<<32 - 1, 1 << 32, 1<<32 + 1,
		1<<63 - 1, 1 << 63, 1<<63 + 1,
		999_999_999_999_999_999, 1_000_000_000_000_000_000,
		9_999_999_999_999_999_999, 10_000_000_000_000_000_000, 10_000_000_000_000_000_001,
		most - 1, most,
	}
	mixed := uint64(88172645463325252)
	for range 12 {
		mixed ^= mixed << 13
		mixed ^= mixed >> 7
		mixed ^= mixed << 17
		list = append(list, mixed)
	}
	return list
}

// wides are numbers made of all pairs of words.
func wides() []api.Wide {
	var list []api.Wide
	for _, high := range words() {
		for _, low := range words() {
			list = append(list, api.Wide{High: high, Low: low})
		}
	}
	return list
}

func bigOf(a api.Wide) *big.Int {
	n := new(big.Int).SetUint64(a.High)
	n.Lsh(n, 64)
	return n.Or(n, new(big.Int).SetUint64(a.Low))
}

// fromBig tells nothing, false, of a number that is not from 0 on and below 2^128.
func fromBig(n *big.Int) (api.Wide, bool) {
	if n.Sign() < 0 || n.BitLen() > 128 {
		return nothing, false
	}
	low := new(big.Int).And(n, new(big.Int).SetUint64(most))
	return api.Wide{High: new(big.Int).Rsh(n, 64).Uint64(), Low: low.Uint64()}, true
}

// P1.1

func TestOf(t *testing.T) {
	for _, n := range words() {
		if got := wide.Of(n); got != (api.Wide{Low: n}) {
			t.Errorf("Of(%d) = %v", n, got)
		}
	}
}

func TestAdd(t *testing.T) {
	cases := []struct {
		name string
		a, b api.Wide
		want api.Wide
		ok   bool
	}{
		{"ordinary", wide.Of(3), wide.Of(4), wide.Of(7), true},
		{"nothing and nothing", nothing, nothing, nothing, true},
		{"nothing to the greatest", greatest, nothing, greatest, true},
		{"one to one below the greatest", api.Wide{High: most, Low: most - 1}, wide.Of(1), greatest, true},
		{"one to the greatest", greatest, wide.Of(1), nothing, false},
		{"the greatest to one", wide.Of(1), greatest, nothing, false},
		{"the greatest twice", greatest, greatest, nothing, false},
		{"halves of 2^128", api.Wide{High: 1 << 63}, api.Wide{High: 1 << 63}, nothing, false},
		{"past 2^128 in the upper half alone", api.Wide{High: most, Low: 5}, api.Wide{High: 1, Low: 6}, nothing, false},
		{"carried from the lower half", wide.Of(most), wide.Of(1), api.Wide{High: 1}, true},
		{"carried onto upper halves", api.Wide{High: 2, Low: most}, api.Wide{High: 3, Low: most}, api.Wide{High: 6, Low: most - 1}, true},
		{"carried past 2^128", api.Wide{High: most - 1, Low: most}, api.Wide{High: 1, Low: 1}, nothing, false},
	}
	for _, c := range cases {
		if got, ok := wide.Add(c.a, c.b); got != c.want || ok != c.ok {
			t.Errorf("%s: Add(%v, %v) = %v, %v; want %v, %v", c.name, c.a, c.b, got, ok, c.want, c.ok)
		}
	}
}

func TestSub(t *testing.T) {
	cases := []struct {
		name string
		a, b api.Wide
		want api.Wide
		ok   bool
	}{
		{"ordinary", wide.Of(7), wide.Of(4), wide.Of(3), true},
		{"nothing and nothing", nothing, nothing, nothing, true},
		{"all of the greatest", greatest, greatest, nothing, true},
		{"nothing of the greatest", greatest, nothing, greatest, true},
		{"one of nothing", nothing, wide.Of(1), nothing, false},
		{"the greatest of nothing", nothing, greatest, nothing, false},
		{"the greatest of one below", api.Wide{High: most, Low: most - 1}, greatest, nothing, false},
		{"borrowed by the lower half", api.Wide{High: 1}, wide.Of(1), wide.Of(most), true},
		{"borrowed between upper halves", api.Wide{High: 6, Low: 1}, api.Wide{High: 3, Low: 2}, api.Wide{High: 2, Low: most}, true},
		{"borrowed where there is nothing", api.Wide{High: 3, Low: 1}, api.Wide{High: 3, Low: 2}, nothing, false},
		{"more above, less below", api.Wide{High: 1, Low: 9}, api.Wide{High: 2, Low: 3}, nothing, false},
	}
	for _, c := range cases {
		if got, ok := wide.Sub(c.a, c.b); got != c.want || ok != c.ok {
			t.Errorf("%s: Sub(%v, %v) = %v, %v; want %v, %v", c.name, c.a, c.b, got, ok, c.want, c.ok)
		}
	}
}

func TestCmp(t *testing.T) {
	inOrder := []api.Wide{
		nothing, wide.Of(1), wide.Of(1 << 63), wide.Of(most),
		{High: 1}, {High: 1, Low: 1}, {High: 1, Low: most},
		{High: 1 << 63}, {High: 1 << 63, Low: most},
		{High: most}, {High: most, Low: most - 1}, greatest,
	}
	for i, a := range inOrder {
		for j, b := range inOrder {
			want := 0
			if i < j {
				want = -1
			} else if i > j {
				want = 1
			}
			if got := wide.Cmp(a, b); got != want {
				t.Errorf("Cmp(%v, %v) = %d; want %d", a, b, got, want)
			}
		}
	}
}

func TestAddSubCmpAgainstBig(t *testing.T) {
	list := wides()
	for i := 0; i < len(list); i += 3 {
		a, bigA := list[i], bigOf(list[i])
		for _, b := range list {
			bigB := bigOf(b)
			want, wantOK := fromBig(new(big.Int).Add(bigA, bigB))
			if got, ok := wide.Add(a, b); got != want || ok != wantOK {
				t.Fatalf("Add(%v, %v) = %v, %v; want %v, %v", a, b, got, ok, want, wantOK)
			}
			want, wantOK = fromBig(new(big.Int).Sub(bigA, bigB))
			if got, ok := wide.Sub(a, b); got != want || ok != wantOK {
				t.Fatalf("Sub(%v, %v) = %v, %v; want %v, %v", a, b, got, ok, want, wantOK)
			}
			if got := wide.Cmp(a, b); got != bigA.Cmp(bigB) {
				t.Fatalf("Cmp(%v, %v) = %d", a, b, got)
			}
		}
	}
}

// P1.2

func TestMul(t *testing.T) {
	cases := []struct {
		a, b uint64
		want api.Wide
	}{
		{3, 4, wide.Of(12)},
		{0, 0, nothing},
		{0, most, nothing},
		{1, most, wide.Of(most)},
		{2, most, api.Wide{High: 1, Low: most - 1}},
		{1 << 32, 1 << 32, api.Wide{High: 1}},
		{1<<32 - 1, 1<<32 + 1, wide.Of(most)},
		{1 << 63, 2, api.Wide{High: 1}},
		{most, most, api.Wide{High: most - 1, Low: 1}},
	}
	for _, c := range cases {
		if got := wide.Mul(c.a, c.b); got != c.want {
			t.Errorf("Mul(%d, %d) = %v; want %v", c.a, c.b, got, c.want)
		}
	}
	for _, a := range words() {
		for _, b := range words() {
			want, _ := fromBig(new(big.Int).Mul(new(big.Int).SetUint64(a), new(big.Int).SetUint64(b)))
			if got := wide.Mul(a, b); got != want {
				t.Errorf("Mul(%d, %d) = %v; want %v", a, b, got, want)
			}
		}
	}
}

func TestDiff(t *testing.T) {
	cases := []struct {
		a, b int64
		want uint64
	}{
		{3, 7, 4},
		{7, 3, 0},
		{-3, 4, 7},
		{4, -3, 0},
		{-7, -3, 4},
		{-3, -7, 0},
		{0, 0, 0},
		{-1, 0, 1},
		{0, math.MaxInt64, math.MaxInt64},
		{-1, math.MaxInt64, 1 << 63},
		{math.MinInt64, 0, 1 << 63},
		{math.MinInt64, -1, math.MaxInt64},
		{math.MinInt64, math.MaxInt64, most},
		{math.MaxInt64, math.MinInt64, 0},
		{math.MinInt64, math.MinInt64, 0},
		{math.MaxInt64, math.MaxInt64, 0},
	}
	for _, c := range cases {
		if got := wide.Diff(c.a, c.b); got != c.want {
			t.Errorf("Diff(%d, %d) = %d; want %d", c.a, c.b, got, c.want)
		}
	}
	for _, a := range words() {
		for _, b := range words() {
			want := new(big.Int).Sub(big.NewInt(int64(b)), big.NewInt(int64(a)))
			if want.Sign() < 0 {
				want.SetInt64(0)
			}
			if got := wide.Diff(int64(a), int64(b)); got != want.Uint64() {
				t.Errorf("Diff(%d, %d) = %d; want %v", int64(a), int64(b), got, want)
			}
		}
	}
}

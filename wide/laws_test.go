package wide_test

import (
	"math/big"
	"slices"
	"testing"

	"gridiron/api"
	"gridiron/wide"
)

// P1.4

func add(t *testing.T, a, b api.Wide) api.Wide {
	t.Helper()
	sum, ok := wide.Add(a, b)
	if !ok {
		t.Fatalf("Add(%v, %v): there is none", a, b)
	}
	return sum
}

func TestWhatIsAddedCanBeTakenAway(t *testing.T) {
	list := wides()
	for i := 0; i < len(list); i += 5 {
		for _, b := range list {
			a := list[i]
			if sum, ok := wide.Add(a, b); ok {
				if back, ok := wide.Sub(sum, b); !ok || back != a {
					t.Fatalf("(%v + %v) - the latter = %v, %v", a, b, back, ok)
				}
			}
			less, ok := wide.Sub(a, b)
			if ok != (wide.Cmp(a, b) >= 0) {
				t.Fatalf("Sub(%v, %v) tells %v, Cmp %d", a, b, ok, wide.Cmp(a, b))
			}
			if ok && add(t, less, b) != a {
				t.Fatalf("(%v - %v) + the latter is not the former", a, b)
			}
		}
	}
}

// sum tells all three together; nothing, false, if that is 2^128 or more.
func sum(a, b, c api.Wide) (api.Wide, bool) {
	ab, ok := wide.Add(a, b)
	if !ok {
		return api.Wide{}, false
	}
	return wide.Add(ab, c)
}

func TestSumsInAnyOrder(t *testing.T) {
	list := wides()
	for i := 0; i < len(list); i += 13 {
		for j := 0; j < len(list); j += 7 {
			for k := 0; k < len(list); k += 11 {
				a, b, c := list[i], list[j], list[k]
				first, ok := sum(a, b, c)
				for _, other := range [][3]api.Wide{{a, c, b}, {b, a, c}, {b, c, a}, {c, a, b}, {c, b, a}} {
					if again, okAgain := sum(other[0], other[1], other[2]); again != first || okAgain != ok {
						t.Fatalf("%v, in another order than %v %v %v: %v, %v; not %v, %v", other, a, b, c, again, okAgain, first, ok)
					}
				}
			}
		}
	}
}

func TestProductsInAnyOrderAndOfParts(t *testing.T) {
	for _, a := range words() {
		for _, b := range words() {
			whole := wide.Mul(a, b)
			if wide.Mul(b, a) != whole {
				t.Errorf("Mul(%d, %d) is another the other way about", a, b)
			}
			for _, part := range words() {
				if part > b {
					continue
				}
				if of := add(t, wide.Mul(a, part), wide.Mul(a, b-part)); of != whole {
					t.Errorf("%d times %d, of parts %d and %d: %v; want %v", a, b, part, b-part, of, whole)
				}
			}
		}
	}
}

func TestProductsOfThree(t *testing.T) {
	for _, a := range words() {
		for _, b := range words() {
			for _, c := range words() {
				ab, bc := wide.Mul(a, b), wide.Mul(b, c)
				if ab.High != 0 || bc.High != 0 {
					continue
				}
				if wide.Mul(ab.Low, c) != wide.Mul(a, bc.Low) {
					t.Errorf("%d times %d times %d: it matters which two come first", a, b, c)
				}
			}
		}
	}
}

func TestDigitsAreReadToWhatTheyWereToldOf(t *testing.T) {
	for _, a := range wides() {
		if back, errno := wide.Parse(wide.Text(a)); back != a || errno != api.OK {
			t.Errorf("Parse(Text(%v)) = %v, %d", a, back, errno)
		}
	}
}

func TestDiffsOfThreeNumbers(t *testing.T) {
	var list []int64
	for _, n := range words() {
		list = append(list, int64(n))
	}
	slices.Sort(list)
	for i, a := range list {
		for j := i; j < len(list); j++ {
			for k := j; k < len(list); k++ {
				b, c := list[j], list[k]
				parts := add(t, wide.Of(wide.Diff(a, b)), wide.Of(wide.Diff(b, c)))
				if parts != wide.Of(wide.Diff(a, c)) {
					t.Fatalf("Diff(%d, %d) = %d, but of parts at %d: %v", a, c, wide.Diff(a, c), b, parts)
				}
			}
		}
	}
}

// FuzzWide looks for numbers at which the laws do not hold; its seeds are run with the other tests.
func FuzzWide(f *testing.F) {
	f.Add(uint64(0), uint64(0), uint64(0), uint64(1), "0")
	f.Add(uint64(most), uint64(most), uint64(0), uint64(1), "340282366920938463463374607431768211456")
	f.Add(uint64(1), uint64(most), uint64(2), uint64(most), "007")
	f.Fuzz(func(t *testing.T, high, low, otherHigh, otherLow uint64, text string) {
		a, b := api.Wide{High: high, Low: low}, api.Wide{High: otherHigh, Low: otherLow}
		want, wantOK := fromBig(new(big.Int).Add(bigOf(a), bigOf(b)))
		if got, ok := wide.Add(a, b); got != want || ok != wantOK {
			t.Errorf("Add(%v, %v) = %v, %v; want %v, %v", a, b, got, ok, want, wantOK)
		}
		if got, errno := wide.Parse(wide.Text(a)); got != a || errno != api.OK {
			t.Errorf("Parse(Text(%v)) = %v, %d", a, got, errno)
		}
		if got, errno := wide.Parse(text); errno == api.OK && wide.Text(got) != text {
			t.Errorf("Text(Parse(%q)) = %q", text, wide.Text(got))
		}
	})
}

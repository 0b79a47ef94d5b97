package ivl

import (
	"slices"
	"testing"

	"gridiron/api"
	"gridiron/item"
	"gridiron/samples"
)

// moved tells how many of both lists' places have another run.
func moved(before, now []int) int {
	count := 0
	for place := range before {
		if before[place] != now[place] {
			count++
		}
	}
	return count
}

func TestPlacesSeldomGoToAnotherRun(t *testing.T) {
	const n = 1000
	rising := samples.Spans(n, 400)
	slices.SortFunc(rising, item.ByLo)
	falling := slices.Clone(rising)
	slices.Reverse(falling)
	for name, order := range map[string][]api.Span{"rising": rising, "falling": falling, "in no order": samples.Shuffled(rising, 4)} {
		t.Run(name, func(t *testing.T) {
			l, times := lay(rising), 0
			for _, x := range order {
				before := slices.Clone(l.of)
				if !l.drop(0, l.end(), x, item.ByLo) {
					t.Fatalf("%v isn't there", x)
				}
				times += moved(before, l.of)
			}
			if times > n*samples.Log(n+1) {
				t.Errorf("places went to another run %d times", times)
			}
		})
	}
}

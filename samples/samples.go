// Package samples is beside the layers: what several of their tests are made of, the same at each call. No layer calls it.
package samples

import (
	"slices"

	"gridiron/api"
)

// Turns are numbers by a rule that goes round: each call tells one from 0 on, below what it is handed.
func Turns(seed int) func(below int) int {
	turn := uint64(seed)*2654435761 + 12345
	return func(below int) int {
		turn = turn*6364136223846793005 + 1442695040888963407
		return int(turn>>33) % below
	}
}

// Log tells how often 1 must be doubled to be n at least, counted by doubling.
func Log(n int) int {
	times := 0
	for k := 1; k < n; k *= 2 {
		times++
	}
	return times
}

// Shuffled is l in another order.
func Shuffled[T any](l []T, seed int) []T {
	next := Turns(seed)
	l = slices.Clone(l)
	for i := range l {
		j := i + next(len(l)-i)
		l[i], l[j] = l[j], l[i]
	}
	return l
}

// Orders are all orders of l.
func Orders[T any](l []T) [][]T {
	if len(l) == 0 {
		return [][]T{nil}
	}
	var all [][]T
	for i, first := range l {
		for _, rest := range Orders(slices.Delete(slices.Clone(l), i, i+1)) {
			all = append(all, append([]T{first}, rest...))
		}
	}
	return all
}

// Ways are some orders of things that rise, by what they are called.
func Ways[T any](rising []T) map[string][]T {
	falling := slices.Clone(rising)
	slices.Reverse(falling)
	var inward []T
	for i := range rising {
		inward = append(inward, rising[i], falling[i])
	}
	// Behind the first half all come once more.
	inward = inward[:len(rising)]
	outward := slices.Clone(inward)
	slices.Reverse(outward)
	return map[string][]T{"rising": rising, "falling": falling, "from both sides": inward, "to both sides": outward, "in no order": Shuffled(rising, 4)}
}

// Spoil writes over a list and the room behind it.
func Spoil[T any](l []T, with T) {
	l = l[:cap(l)]
	for i := range l {
		l[i] = with
	}
}

// Name is the name of the i-th thing of a sample: no two of 2^16 are the same, and they are in no order.
func Name(i int) uint32 {
	// This number is odd, so that it goes round all of them.
	return uint32(i * 40503 % 65536)
}

// Spans are n right spans with ends from 0 on, below unlike.
func Spans(n, unlike int) []api.Span {
	next := Turns(n*31 + unlike)
	var l []api.Span
	for i := range n {
		lo, hi := int64(next(unlike)), int64(next(unlike))
		l = append(l, api.Span{Lo: min(lo, hi), Hi: max(lo, hi), ID: Name(i)})
	}
	return l
}

// ShortSpans are n right spans that begin from 0 on, below unlike, and end less than long above that.
func ShortSpans(n, unlike, long int) []api.Span {
	next := Turns(n*17 + unlike)
	var l []api.Span
	for i := range n {
		lo := int64(next(unlike))
		l = append(l, api.Span{Lo: lo, Hi: lo + int64(next(long)), ID: Name(i)})
	}
	return l
}

// FewSpans are all lists of n right spans with ends from 0 on, below ends; their names fall.
func FewSpans(n, ends int) [][]api.Span {
	var one []api.Span
	for lo := range ends {
		for hi := lo; hi < ends; hi++ {
			one = append(one, api.Span{Lo: int64(lo), Hi: int64(hi)})
		}
	}
	return few(n, one, func(x *api.Span, name uint32) { x.ID = name })
}

// few are all lists of n things, each of which is as one of these, and is called by a name; the names fall.
func few[T any](n int, one []T, call func(x *T, name uint32)) [][]T {
	if n == 0 {
		return [][]T{nil}
	}
	var all [][]T
	for _, l := range few(n-1, one, call) {
		for _, x := range one {
			call(&x, uint32(10-n))
			all = append(all, append(slices.Clone(l), x))
		}
	}
	return all
}

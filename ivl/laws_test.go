package ivl_test

import (
	"slices"
	"testing"

	"gridiron/api"
	"gridiron/ivl"
	"gridiron/samples"
)

func TestAllListsOfFewSpans(t *testing.T) {
	for n, ends := range []int{9, 9, 6, 4, 3} {
		for _, l := range samples.FewSpans(n, ends) {
			holds(t, of(t, l...), l, l)
		}
	}
}

// P9.3 and P9.5

func TestAllOrdersInWhichFewSpansAreDropped(t *testing.T) {
	for _, l := range samples.FewSpans(3, 3) {
		for _, order := range samples.Orders(l) {
			v := of(t, l...)
			for i, x := range order {
				dropped(t, v, x, true)
				dropped(t, v, x, false)
				holds(t, v, l, order[i+1:])
			}
		}
	}
}

func TestAllOrdersInWhichFiveSpansAreDropped(t *testing.T) {
	for _, l := range [][]api.Span{samples.Spans(5, 1), samples.Spans(5, 4), samples.ShortSpans(5, 50, 2)} {
		for _, order := range samples.Orders(l) {
			v := of(t, l...)
			for i, x := range order {
				dropped(t, v, x, true)
				holds(t, v, l, order[i+1:])
			}
		}
	}
}

func TestManySpansAreDroppedInAnyOrder(t *testing.T) {
	for _, n := range []int{1, 2, 3, 5, 17, 64, 150} {
		for _, unlike := range []int{1, 2, 7, 50, 5000} {
			for _, l := range [][]api.Span{samples.Spans(n, unlike), samples.ShortSpans(n, unlike, 9)} {
				v, order := of(t, l...), samples.Shuffled(l, n+unlike)
				for i, x := range order {
					if i%(1+n/7) == 0 {
						holds(t, v, l, order[i:])
					}
					dropped(t, v, x, true)
				}
				holds(t, v, l, nil)
			}
		}
	}
}

// P9.4

func TestWhatIsDroppedIsNotGoneOver(t *testing.T) {
	const n = 3000
	rising := samples.ShortSpans(n, 100000, 40)
	slices.SortFunc(rising, func(s, u api.Span) int { return int(s.Lo - u.Lo) })
	for name, order := range samples.Ways(rising) {
		t.Run(name, func(t *testing.T) {
			v := of(t, rising...)
			for i, x := range order {
				left := order[i:]
				if i%(n/10) == 0 || len(left) < 4 {
					meets(t, v, n, 0, 200000, meeting(left, 0, 200000)...)
					for _, s := range []api.Span{rising[0], rising[n/2], rising[n-1], x, order[i/2], order[n-1]} {
						stabs(t, v, n, s.Lo, meeting(left, s.Lo, s.Lo)...)
						meets(t, v, n, s.Lo-1, s.Lo+2000, meeting(left, s.Lo-1, s.Lo+2000)...)
					}
				}
				dropped(t, v, x, true)
			}
			meets(t, v, n, least, greatest)
		})
	}
}

func TestKnotsAndSpansAreCountedAsTouched(t *testing.T) {
	v := of(t, span(1, 0, 4), span(2, 4, 9), span(3, 6, 6))
	cases := []struct {
		name       string
		x          int64
		least, all int
	}{
		{"the knot at 4 and both of its spans", 4, 3, 3},
		{"the knots at 4 and at 6, and the spans that have it", 6, 4, 5},
		{"the knots at 4 and at 0", -1, 2, 3},
		{"the knots at 4, at 6 and at 9", 10, 3, 5},
	}
	for _, c := range cases {
		if _, touched := v.Stab(c.x); touched < c.least || touched > c.all {
			t.Errorf("%s: Stab of %d touches %d, not %d to %d", c.name, c.x, touched, c.least, c.all)
		}
	}
}

func TestManySpansThatAreTheSame(t *testing.T) {
	const n = 1 << 16
	var l []api.Span
	for i := range n {
		l = append(l, span(uint32(n-i), -5, 5))
	}
	v := of(t, append(l, span(0, -9, 9))...)
	for i, x := range samples.Shuffled(l, 1) {
		stabs(t, v, n+1, -6, 0)
		stabs(t, v, n+1, 6, 0)
		meets(t, v, n+1, 6, 7, 0)
		if v.Len() != n-i+1 {
			t.Fatalf("behind %d drops: Len: %d", i, v.Len())
		}
		dropped(t, v, x, true)
	}
	stabs(t, v, n+1, 0, 0)
	meets(t, v, n+1, least, greatest, 0)
}

func TestManySpans(t *testing.T) {
	const n = 50000
	l := samples.Spans(n, 1<<30)
	v := of(t, l...)
	some := []int64{-1, 0, 1 << 29, 1 << 30, l[0].Lo, l[1].Hi, l[2].Lo - 1, l[3].Hi + 1, least, greatest}
	order := samples.Shuffled(l, 5)
	for i, x := range order {
		if i%7000 == 0 {
			for _, lo := range some {
				stabs(t, v, n, lo, meeting(order[i:], lo, lo)...)
				meets(t, v, n, lo, lo/2+1<<29, meeting(order[i:], lo, lo/2+1<<29)...)
			}
		}
		dropped(t, v, x, true)
	}
	if v.Len() != 0 {
		t.Errorf("behind all drops: Len: %d", v.Len())
	}
}

// P9.5

func TestWhatMeetsIsWhatLoStabsAndWhatBeginsBehindIt(t *testing.T) {
	for _, l := range [][]api.Span{samples.Spans(40, 20), samples.Spans(60, 1000), samples.ShortSpans(60, 90, 7)} {
		v := of(t, l...)
		for i, x := range l {
			for _, lo := range numbersAt(l[:20]) {
				for _, hi := range []int64{lo, lo/2 + 9, lo/3 + 400, greatest} {
					if hi < lo {
						continue
					}
					want, _ := v.Stab(lo)
					for _, s := range l[i:] {
						if lo < s.Lo && s.Lo <= hi {
							want = append(want, s.ID)
						}
					}
					slices.Sort(want)
					meets(t, v, len(l), lo, hi, want...)
				}
			}
			dropped(t, v, x, true)
		}
	}
}

func TestTheOrderInWhichSpansAreHandedInSaysNothing(t *testing.T) {
	for _, n := range []int{2, 3, 9, 40, 200} {
		for _, unlike := range []int{2, 30, 3000} {
			l := samples.Spans(n, unlike)
			one := of(t, l...)
			falling := slices.Clone(l)
			slices.Reverse(falling)
			for _, order := range [][]api.Span{samples.Shuffled(l, 1), samples.Shuffled(l, 2), falling} {
				same(t, one, of(t, order...), numbersAt(l))
			}
		}
	}
}

// same fails unless both trees answer the same at all numbers, whatever was touched.
func same(t *testing.T, one, other *ivl.Ivl, numbers []int64) {
	t.Helper()
	if one.Len() != other.Len() {
		t.Fatalf("Len: %d and %d", one.Len(), other.Len())
	}
	for i, x := range numbers {
		names, _ := one.Stab(x)
		others, _ := other.Stab(x)
		meeting, _ := one.Meet(x, numbers[i*7%len(numbers)])
		met, _ := other.Meet(x, numbers[i*7%len(numbers)])
		if !slices.Equal(names, others) || !slices.Equal(meeting, met) {
			t.Fatalf("%d: %v and %v; %v and %v", x, names, others, meeting, met)
		}
	}
}

func TestTheSameSpansLeftAreToldOfWhicheverWereDropped(t *testing.T) {
	l, left := samples.Spans(80, 60), samples.Spans(80, 60)[:20]
	for seed := range 4 {
		v := of(t, samples.Shuffled(l, seed)...)
		for _, x := range samples.Shuffled(l[20:], seed+9) {
			dropped(t, v, x, true)
		}
		holds(t, v, l, left)
		same(t, v, of(t, left...), numbersAt(l))
	}
}

// R3 and R4

func TestNoListThatIsGivenIsChangedNorKept(t *testing.T) {
	whole := samples.Spans(60, 50)
	before := slices.Clone(whole)
	v := of(t, whole[:40]...)
	wrong := append(slices.Clone(whole), span(0, 9, 1))
	ivl.Build(wrong)
	if !slices.Equal(whole, before) || !slices.Equal(wrong, append(slices.Clone(before), span(0, 9, 1))) {
		t.Error("Build changes its list, or the room behind it")
	}
	for i := range whole {
		whole[i] = span(7, -1, 99)
	}
	holds(t, v, before[:40], before[:40])
	for i, x := range before[:40] {
		dropped(t, v, x, true)
		holds(t, v, before[:40], before[i+1:40])
	}
}

func TestNamesAreToldInMemoryOfTheirOwn(t *testing.T) {
	l := samples.Spans(50, 30)
	v := of(t, l...)
	for x := range int64(30) {
		kept, _ := v.Stab(x)
		met, _ := v.Meet(x, x+3)
		names, _ := v.Stab(x)
		samples.Spoil(names, 77)
		names, _ = v.Meet(x, x+3)
		samples.Spoil(names, 77)
		if !slices.Equal(kept, meeting(l, x, x)) || !slices.Equal(met, meeting(l, x, x+3)) {
			t.Fatalf("two answers for %d share memory", x)
		}
		samples.Spoil(kept, 77)
		samples.Spoil(met, 77)
	}
	holds(t, v, l, l)
}

func TestAskingChangesNothing(t *testing.T) {
	l := samples.Spans(40, 30)
	v := of(t, l...)
	for range 3 {
		holds(t, v, l, l)
		dropped(t, v, span(1, 99, 99), false)
	}
	first, touched := v.Meet(7, 9)
	again, other := v.Meet(7, 9)
	if !slices.Equal(first, again) || touched != other {
		t.Errorf("Meet of 7, 9: %v, %d, and then %v, %d", first, touched, again, other)
	}
}

func TestTreesHaveNothingToDoWithOneAnother(t *testing.T) {
	l := samples.Spans(30, 20)
	one, other := of(t, l...), of(t, l...)
	for i, x := range l {
		dropped(t, one, x, true)
		holds(t, other, l, l)
		holds(t, one, l, l[i+1:])
	}
}

package seg_test

import (
	"slices"
	"testing"

	"gridiron/api"
	"gridiron/rank"
	"gridiron/samples"
	"gridiron/seg"
)

func TestAllListsOfFewSpans(t *testing.T) {
	for n, ends := range []int{9, 9, 6, 4, 3} {
		for _, l := range samples.FewSpans(n, ends) {
			holds(t, of(t, l...), l, l)
		}
	}
}

// P8.3 and P8.5

func TestAllOrdersInWhichFewSpansAreDropped(t *testing.T) {
	for _, l := range samples.FewSpans(3, 3) {
		for _, order := range samples.Orders(l) {
			s := of(t, l...)
			for i, x := range order {
				dropped(t, s, x, true)
				dropped(t, s, x, false)
				holds(t, s, l, order[i+1:])
			}
		}
	}
}

func TestManySpansAreDroppedInAnyOrder(t *testing.T) {
	for _, n := range []int{1, 2, 3, 5, 17, 64, 150} {
		for _, unlike := range []int{1, 2, 7, 50, 5000} {
			l := samples.Spans(n, unlike)
			for seed := range 3 {
				s, order := of(t, l...), samples.Shuffled(l, seed)
				for i, x := range order {
					if i%(1+n/7) == 0 {
						holds(t, s, l, order[i:])
					}
					dropped(t, s, x, true)
				}
				holds(t, s, l, nil)
			}
		}
	}
}

// P8.5

func TestTheOrderInWhichSpansAreHandedInSaysNothing(t *testing.T) {
	for _, n := range []int{2, 3, 9, 40, 200} {
		for _, unlike := range []int{2, 30, 3000} {
			l := samples.Spans(n, unlike)
			one := of(t, l...)
			falling := slices.Clone(l)
			slices.Reverse(falling)
			for _, order := range [][]api.Span{samples.Shuffled(l, 1), samples.Shuffled(l, 2), falling} {
				same(t, one, of(t, order...), endsOf(l))
			}
		}
	}
}

// same fails unless both trees answer the same at all numbers, whatever was touched.
func same(t *testing.T, one, other *seg.Seg, ends []int64) {
	t.Helper()
	if one.Len() != other.Len() || one.Weight() != other.Weight() {
		t.Fatalf("Len: %d and %d; Weight: %d and %d", one.Len(), other.Len(), one.Weight(), other.Weight())
	}
	for _, x := range numbersAt(ends) {
		names, _ := one.Stab(x)
		others, _ := other.Stab(x)
		count, _ := one.Count(x)
		counted, _ := other.Count(x)
		if !slices.Equal(names, others) || count != counted {
			t.Fatalf("%d: %v and %v; %d and %d", x, names, others, count, counted)
		}
	}
}

func TestTheSameSpansLeftAreToldOfWhicheverWereDropped(t *testing.T) {
	l, left := samples.Spans(80, 60), samples.Spans(80, 60)[:20]
	for seed := range 4 {
		s := of(t, samples.Shuffled(l, seed)...)
		for _, x := range samples.Shuffled(l[20:], seed+9) {
			dropped(t, s, x, true)
		}
		holds(t, s, l, left)
	}
}

// P8.4

func TestAtFewNodesASpanStands(t *testing.T) {
	for _, n := range []int{0, 1, 2, 3, 7, 8, 31, 32, 33, 200} {
		for _, unlike := range []int{1, 3, 100, 100000} {
			l := samples.Spans(n, unlike)
			s := of(t, l...)
			for _, x := range l {
				before := s.Weight()
				dropped(t, s, x, true)
				if at := before - s.Weight(); at < 1 || at > 2*samples.Log(4*n+4) || at > 2*rank.Log(4*n+4) {
					t.Fatalf("%v stood at %d nodes of a tree of %d spans", x, at, n)
				}
			}
		}
	}
}

func TestCountTouchesWhatStabDoesButForTheSpans(t *testing.T) {
	l := samples.Spans(100, 80)
	s, ends := of(t, l...), endsOf(l)
	for i, gone := range l {
		for _, x := range numbersAt(ends)[:i] {
			names, touched := s.Stab(x)
			_, counted := s.Count(x)
			if touched-len(names) != counted {
				t.Fatalf("%d: Stab touches %d and tells %d, Count touches %d", x, touched, len(names), counted)
			}
		}
		dropped(t, s, gone, true)
	}
}

func TestWhatIsTouchedHasTheCellsThatWereLookedAtAndANode(t *testing.T) {
	l := samples.Spans(100, 300)
	s, ends := of(t, l...), endsOf(l)
	for _, x := range numbersAt(ends) {
		_, looked := rank.First(ends, x)
		if ends[0] <= x && x <= ends[len(ends)-1] {
			looked++ // the root, at least
		}
		if _, touched := s.Count(x); touched < looked {
			t.Fatalf("Count of %d touches %d, not %d at least", x, touched, looked)
		}
	}
}

func TestManySpansThatAreTheSame(t *testing.T) {
	const n = 1 << 16
	var l []api.Span
	for i := range n {
		l = append(l, span(uint32(n-i), -5, 5))
	}
	s := of(t, append(l, span(0, -9, 9))...)
	for i, x := range samples.Shuffled(l, 1) {
		if count, touched := s.Count(0); count != n-i+1 || touched > 2*samples.Log(4*(n+1)+4)+2 {
			t.Fatalf("behind %d drops: %d, %d touched", i, count, touched)
		}
		dropped(t, s, x, true)
	}
	stabs(t, s, n+1, 0, 0)
}

func TestManySpans(t *testing.T) {
	const n = 50000
	l := samples.Spans(n, 1<<30)
	s := of(t, l...)
	if s.Len() != n || s.Weight() < n || s.Weight() > n*2*samples.Log(4*n+4) {
		t.Fatalf("Len: %d, Weight: %d", s.Len(), s.Weight())
	}
	some := []int64{-1, 0, 1 << 29, 1 << 30, l[0].Lo, l[1].Hi, l[2].Lo - 1, l[3].Hi + 1, least, greatest}
	order := samples.Shuffled(l, 5)
	for i, x := range order {
		if i%7000 == 0 {
			for _, number := range some {
				stabs(t, s, n, number, namesByHand(order[i:], number)...)
			}
		}
		dropped(t, s, x, true)
	}
	if s.Len() != 0 || s.Weight() != 0 {
		t.Errorf("behind all drops: Len: %d, Weight: %d", s.Len(), s.Weight())
	}
}

// R3 and R4

func TestNoListThatIsGivenIsChangedNorKept(t *testing.T) {
	whole := samples.Spans(60, 50)
	before := slices.Clone(whole)
	s := of(t, whole[:40]...)
	wrong := append(slices.Clone(whole), span(0, 9, 1))
	seg.Build(wrong)
	if !slices.Equal(whole, before) || !slices.Equal(wrong, append(slices.Clone(before), span(0, 9, 1))) {
		t.Error("Build changes its list, or the room behind it")
	}
	for i := range whole {
		whole[i] = span(7, -1, 99)
	}
	holds(t, s, before[:40], before[:40])
	for i, x := range before[:40] {
		dropped(t, s, x, true)
		holds(t, s, before[:40], before[i+1:40])
	}
}

func TestNamesAreToldInMemoryOfTheirOwn(t *testing.T) {
	l := samples.Spans(50, 30)
	s := of(t, l...)
	for x := range int64(30) {
		kept, _ := s.Stab(x)
		names, _ := s.Stab(x)
		samples.Spoil(names, 77)
		if !slices.Equal(kept, namesByHand(l, x)) {
			t.Fatalf("two answers for %d share memory", x)
		}
		samples.Spoil(kept, 77)
	}
	holds(t, s, l, l)
}

func TestAskingChangesNothing(t *testing.T) {
	l := samples.Spans(40, 30)
	s := of(t, l...)
	for range 3 {
		holds(t, s, l, l)
		dropped(t, s, span(1, 99, 99), false)
	}
	first, touched := s.Stab(7)
	again, other := s.Stab(7)
	if !slices.Equal(first, again) || touched != other {
		t.Errorf("Stab of 7: %v, %d, and then %v, %d", first, touched, again, other)
	}
}

func TestTreesHaveNothingToDoWithOneAnother(t *testing.T) {
	l := samples.Spans(30, 20)
	one, other := of(t, l...), of(t, l...)
	for i, x := range l {
		dropped(t, one, x, true)
		holds(t, other, l, l)
		holds(t, one, l, l[i+1:])
	}
}

package seg_test

import (
	"math"
	"slices"
	"testing"

	"gridiron/api"
	"gridiron/samples"
	"gridiron/seg"
)

const (
	least    = math.MinInt64
	greatest = math.MaxInt64
)

// span is the span of that name from lo to hi.
func span(id uint32, lo, hi int64) api.Span {
	return api.Span{Lo: lo, Hi: hi, ID: id}
}

// of is a tree of these spans.
func of(t *testing.T, l ...api.Span) *seg.Seg {
	t.Helper()
	s, errno := seg.Build(l)
	if s == nil || errno != api.OK {
		t.Fatalf("Build of %v: %v, %d", l, s, errno)
	}
	return s
}

// endsOf are the ends of all spans, each once, rising.
func endsOf(l []api.Span) []int64 {
	var list []int64
	for _, x := range l {
		for _, end := range []int64{x.Lo, x.Hi} {
			if !slices.Contains(list, end) {
				list = append(list, end)
			}
		}
	}
	slices.Sort(list)
	return list
}

// canonical tells how many nodes make up the leaves from, ahead of to, below the node over those from first, ahead of end.
func canonical(from, to, first, end int) int {
	if to <= first || end <= from {
		return 0
	}
	if from <= first && end <= to {
		return 1
	}
	middle := first + (end-first+1)/2
	return canonical(from, to, first, middle) + canonical(from, to, middle, end)
}

// standsAt tells at how many nodes x stands in a tree over these ends.
func standsAt(ends []int64, x api.Span) int {
	from, last := 2*slices.Index(ends, x.Lo), 2*slices.Index(ends, x.Hi)
	return canonical(from, last+1, 0, 2*len(ends)-1)
}

// namesByHand are the names of the spans that have x, rising.
func namesByHand(l []api.Span, x int64) []uint32 {
	var names []uint32
	for _, s := range l {
		if s.Lo <= x && x <= s.Hi {
			names = append(names, s.ID)
		}
	}
	slices.Sort(names)
	return names
}

// numbersAt are all ends, the numbers beside them, those in the middle between two of them, and the least and the greatest number.
func numbersAt(ends []int64) []int64 {
	numbers := []int64{least, least + 1, -1, 0, 1, greatest - 1, greatest}
	for i, end := range ends {
		numbers = append(numbers, end)
		if end > least {
			numbers = append(numbers, end-1)
		}
		if end < greatest {
			numbers = append(numbers, end+1)
		}
		if i > 0 {
			numbers = append(numbers, ends[i-1]/2+end/2)
		}
	}
	return numbers
}

// stabs fails unless x stabs just the spans of these names, and few things are touched for it in a tree that was built of n spans.
func stabs(t *testing.T, s *seg.Seg, n int, x int64, want ...uint32) {
	t.Helper()
	most := 2*samples.Log(4*n+4) + 2
	names, touched := s.Stab(x)
	if !slices.Equal(names, want) || touched < len(want) || touched > len(want)+most {
		t.Fatalf("Stab of %d: %v, %d touched; not %v, and at most %d beside them", x, names, touched, want, most)
	}
	count, touched := s.Count(x)
	if count != len(want) || touched < 0 || touched > most {
		t.Fatalf("Count of %d: %d, %d touched; not %d, and at most %d", x, count, touched, len(want), most)
	}
}

// dropped fails unless Drop of x answers just that.
func dropped(t *testing.T, s *seg.Seg, x api.Span, want bool) {
	t.Helper()
	if got := s.Drop(x); got != want {
		t.Fatalf("Drop of %v: %t", x, got)
	}
}

// holds fails unless s, which was built of the spans in all, has those of l, whichever way it is asked.
func holds(t *testing.T, s *seg.Seg, all, l []api.Span) {
	t.Helper()
	ends := endsOf(all)
	weight := 0
	for _, x := range l {
		weight += standsAt(ends, x)
	}
	if s.Len() != len(l) || s.Weight() != weight {
		t.Fatalf("of %v there are %v: Len: %d; Weight: %d, not %d", all, l, s.Len(), s.Weight(), weight)
	}
	for _, x := range numbersAt(ends) {
		stabs(t, s, len(all), x, namesByHand(l, x)...)
	}
}

// The chapter's examples.

func TestTheChaptersExamples(t *testing.T) {
	l := []api.Span{span(1, 0, 4), span(2, 4, 9), span(3, 6, 6)}
	s := of(t, l...)
	stabs(t, s, 3, 4, 1, 2)
	stabs(t, s, 3, 5, 2)
	stabs(t, s, 3, 6, 2, 3)
	stabs(t, s, 3, 10)
	if count, _ := s.Count(6); count != 2 {
		t.Errorf("Count of 6: %d", count)
	}
	// Seven slots: 0 to 2 are the nodes over 0, 1 and over 2; 2 to 6 those over 2, 3 and over 4 to 6; 4 is a leaf.
	if s.Weight() != 2+2+1 {
		t.Errorf("Weight: %d", s.Weight())
	}
	holds(t, s, l, l)
	dropped(t, s, span(2, 4, 9), true)
	stabs(t, s, 3, 6, 3)
	dropped(t, s, span(3, 6, 7), false)
	stabs(t, s, 3, 6, 3)
	holds(t, s, l, []api.Span{l[0], l[2]})
}

// P8.1

func TestBuildOfWhatIsNotRight(t *testing.T) {
	cases := map[string][]api.Span{
		"the wrong way round":                  {span(1, 1, 0)},
		"the wrong way round, by all numbers":  {span(1, greatest, least)},
		"the first one the wrong way round":    {span(1, 5, 4), span(2, 0, 9), span(3, 1, 1)},
		"the last one the wrong way round":     {span(2, 0, 9), span(3, 1, 1), span(1, 5, 4)},
		"two of one name":                      {span(1, 0, 0), span(1, 0, 3)},
		"two that are the same":                {span(7, 0, 3), span(7, 0, 3)},
		"two of one name far from one another": {span(7, 0, 3), span(8, 1, 1), span(9, 2, 2), span(7, 9, 9)},
		"two of the least name":                {span(0, 0, 0), span(0, 1, 1)},
		"two of the greatest name":             {span(math.MaxUint32, 0, 0), span(1, 1, 1), span(math.MaxUint32, 0, 0)},
		"both":                                 {span(1, 1, 0), span(1, 0, 1)},
	}
	for name, l := range cases {
		t.Run(name, func(t *testing.T) {
			if s, errno := seg.Build(l); s != nil || errno != api.ErrArg {
				t.Errorf("Build of %v: %v, %d", l, s, errno)
			}
		})
	}
}

func TestNoSpans(t *testing.T) {
	for _, l := range [][]api.Span{nil, {}} {
		s := of(t, l...)
		if s.Len() != 0 || s.Weight() != 0 {
			t.Errorf("Len: %d, Weight: %d", s.Len(), s.Weight())
		}
		for _, x := range []int64{least, -1, 0, 1, greatest} {
			stabs(t, s, 0, x)
		}
		dropped(t, s, api.Span{}, false)
		dropped(t, s, span(1, 0, 4), false)
		holds(t, s, nil, nil)
	}
}

func TestLenAndWeightGoDownAsSpansAreDropped(t *testing.T) {
	l := samples.Spans(60, 40)
	s := of(t, l...)
	for i, x := range l {
		holds(t, s, l, l[i:])
		dropped(t, s, x, true)
	}
	if s.Len() != 0 || s.Weight() != 0 {
		t.Errorf("behind all drops: Len: %d, Weight: %d", s.Len(), s.Weight())
	}
}

func TestWhichNodesASpanStandsAt(t *testing.T) {
	cases := []struct {
		name   string
		l      []api.Span
		weight int
	}{
		{"one number: one slot, one node", []api.Span{span(1, 5, 5)}, 1},
		{"over all slots: the root", []api.Span{span(1, 0, 4)}, 1},
		{"all of them at the root", []api.Span{span(1, 0, 4), span(2, 0, 4), span(3, 0, 4)}, 3},
		{"all of them at leaves", []api.Span{span(1, 0, 0), span(2, 1, 1), span(3, 2, 2)}, 3},
		// Five slots: 0 to 2 are one half, 3 and 4 the other one.
		{"two that have one end", []api.Span{span(1, 0, 1), span(2, 1, 2)}, 1 + 2},
		// Seven slots: 0 to 3 are one half, 4 to 6 the other one.
		{"two that share no number", []api.Span{span(1, 0, 1), span(2, 3, 4)}, 2 + 1},
	}
	for _, c := range cases {
		t.Run(c.name, func(t *testing.T) {
			s := of(t, c.l...)
			if s.Weight() != c.weight {
				t.Errorf("Weight: %d, not %d", s.Weight(), c.weight)
			}
			holds(t, s, c.l, c.l)
		})
	}
}

// P8.2

func TestWhatIsStabbedAtEndsAndBetween(t *testing.T) {
	s := of(t, span(5, -3, 2), span(9, 2, 2), span(1, 2, 8), span(7, 8, 11), span(3, 10, 20))
	cases := []struct {
		x    int64
		want []uint32
	}{
		{least, nil}, {-4, nil}, {-3, []uint32{5}}, {-2, []uint32{5}}, {1, []uint32{5}},
		{2, []uint32{1, 5, 9}}, {3, []uint32{1}}, {7, []uint32{1}}, {8, []uint32{1, 7}}, {9, []uint32{7}},
		{10, []uint32{3, 7}}, {11, []uint32{3, 7}}, {12, []uint32{3}}, {20, []uint32{3}}, {21, nil}, {greatest, nil},
	}
	for _, c := range cases {
		stabs(t, s, 5, c.x, c.want...)
	}
}

func TestTheLeastAndTheGreatestNumber(t *testing.T) {
	l := []api.Span{span(4, least, greatest), span(3, least, least), span(2, greatest, greatest), span(1, least, -1), span(0, 0, greatest)}
	s := of(t, l...)
	stabs(t, s, 5, least, 1, 3, 4)
	stabs(t, s, 5, least+1, 1, 4)
	stabs(t, s, 5, -1, 1, 4)
	stabs(t, s, 5, 0, 0, 4)
	stabs(t, s, 5, greatest-1, 0, 4)
	stabs(t, s, 5, greatest, 0, 2, 4)
	holds(t, s, l, l)

	near := []api.Span{span(1, least+1, greatest-1)}
	stabs(t, of(t, near...), 1, least)
	stabs(t, of(t, near...), 1, greatest)
	holds(t, of(t, near...), near, near)
}

func TestNamesRiseAsNumbersOf32BitsDo(t *testing.T) {
	names := []uint32{math.MaxUint32, 0, 1 << 31, 1<<31 - 1, 10, 9, 1, 256, 255, 1 << 16}
	var l []api.Span
	for i, name := range names {
		l = append(l, span(name, int64(-i), int64(i)))
	}
	s := of(t, l...)
	slices.Sort(names)
	stabs(t, s, len(l), 0, names...)
	holds(t, s, l, l)
}

// P8.3

func TestDropOfWhatIsNotThere(t *testing.T) {
	l := []api.Span{span(1, 0, 4), span(2, 4, 9), span(3, 6, 6)}
	s := of(t, l...)
	for _, x := range []api.Span{
		span(2, 0, 4), span(1, 4, 9), span(3, 0, 4), // another one's ends
		span(1, 0, 3), span(1, 0, 5), span(1, 1, 4), span(1, -1, 4), span(2, 4, 6), span(3, 6, 9), // one end alone
		span(1, 4, 0), span(1, 4, 4), span(1, 0, 0), span(1, least, greatest), span(1, greatest, least),
		span(0, 0, 4), span(4, 0, 4), span(math.MaxUint32, 6, 6), {}, // no such name
	} {
		dropped(t, s, x, false)
		holds(t, s, l, l)
	}
}

func TestDropOfOneThatWasDropped(t *testing.T) {
	l := []api.Span{span(1, 0, 4), span(2, 0, 4), span(3, 2, 4)}
	s := of(t, l...)
	for i, x := range l {
		dropped(t, s, x, true)
		for _, gone := range l[:i+1] {
			dropped(t, s, gone, false)
		}
		holds(t, s, l, l[i+1:])
	}
}

func TestOfSpansWithTheSameEndsTheNameTellsWhichGoes(t *testing.T) {
	l := []api.Span{span(9, -1, 1), span(4, -1, 1), span(6, -1, 1), span(5, -1, 1)}
	for at := range l {
		s := of(t, l...)
		dropped(t, s, l[at], true)
		holds(t, s, l, slices.Delete(slices.Clone(l), at, at+1))
	}
}

// P8.4: of no tree.

func TestNoTree(t *testing.T) {
	copied := *of(t, span(1, 0, 4))
	for name, s := range map[string]*seg.Seg{"nil": nil, "one that was not built": {}, "a copy of one that was": &copied} {
		t.Run(name, func(t *testing.T) {
			if s.Len() != 0 || s.Weight() != 0 {
				t.Errorf("Len: %d, Weight: %d", s.Len(), s.Weight())
			}
			for _, x := range []int64{least, 0, 2, 4, greatest} {
				if names, touched := s.Stab(x); len(names) != 0 || touched != 0 {
					t.Errorf("Stab of %d: %v, %d", x, names, touched)
				}
				if count, touched := s.Count(x); count != 0 || touched != 0 {
					t.Errorf("Count of %d: %d, %d", x, count, touched)
				}
			}
			dropped(t, s, span(1, 0, 4), false)
			dropped(t, s, api.Span{}, false)
		})
	}
}

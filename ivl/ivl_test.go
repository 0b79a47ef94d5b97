package ivl_test

import (
	"math"
	"slices"
	"testing"

	"gridiron/api"
	"gridiron/ivl"
	"gridiron/samples"
)

const (
	least    = math.MinInt64
	greatest = math.MaxInt64
)

// span is the span of that name from lo to hi.
func span(id uint32, lo, hi int64) api.Span {
	return api.Span{Lo: lo, Hi: hi, ID: id}
}

// of is a tree of these spans.
func of(t *testing.T, l ...api.Span) *ivl.Ivl {
	t.Helper()
	v, errno := ivl.Build(l)
	if v == nil || errno != api.OK {
		t.Fatalf("Build of %v: %v, %d", l, v, errno)
	}
	return v
}

// meeting are the names of the spans that have a number from lo to hi, rising.
func meeting(l []api.Span, lo, hi int64) []uint32 {
	var names []uint32
	for _, s := range l {
		if lo <= hi && s.Lo <= hi && s.Hi >= lo {
			names = append(names, s.ID)
		}
	}
	slices.Sort(names)
	return names
}

// numbersAt are all ends, the numbers beside them, and the least and the greatest number; each once, rising.
func numbersAt(l []api.Span) []int64 {
	numbers := []int64{least, least + 1, -1, 0, 1, greatest - 1, greatest}
	for _, x := range l {
		for _, end := range []int64{x.Lo, x.Hi} {
			numbers = append(numbers, end)
			if end > least {
				numbers = append(numbers, end-1)
			}
			if end < greatest {
				numbers = append(numbers, end+1)
			}
		}
	}
	slices.Sort(numbers)
	return slices.Compact(numbers)
}

// stabs fails unless x stabs just the spans of these names, and few things are touched for it in a tree that was built of n spans.
func stabs(t *testing.T, v *ivl.Ivl, n int, x int64, want ...uint32) {
	t.Helper()
	most := 2*samples.Log(2*n+1) + 2
	names, touched := v.Stab(x)
	if !slices.Equal(names, want) || touched < len(want) || touched > len(want)+most {
		t.Fatalf("Stab of %d: %v, %d touched; not %v, and at most %d beside them", x, names, touched, want, most)
	}
}

// meets fails unless just the spans of these names have a number from lo to hi, and few things are touched for it in a tree that was built of n spans.
func meets(t *testing.T, v *ivl.Ivl, n int, lo, hi int64, want ...uint32) {
	t.Helper()
	most := 4*samples.Log(2*n+1) + 8
	names, touched := v.Meet(lo, hi)
	if !slices.Equal(names, want) || touched < len(want) || touched > len(want)+most {
		t.Fatalf("Meet of %d, %d: %v, %d touched; not %v, and at most %d beside them", lo, hi, names, touched, want, most)
	}
}

// dropped fails unless Drop of x answers just that.
func dropped(t *testing.T, v *ivl.Ivl, x api.Span, want bool) {
	t.Helper()
	if got := v.Drop(x); got != want {
		t.Fatalf("Drop of %v: %t", x, got)
	}
}

// holds fails unless v, which was built of the spans in all, has those of l, whichever way it is asked.
func holds(t *testing.T, v *ivl.Ivl, all, l []api.Span) {
	t.Helper()
	if v.Len() != len(l) {
		t.Fatalf("of %v there are %v: Len: %d", all, l, v.Len())
	}
	numbers := numbersAt(all)
	// Of few numbers any two are asked, of many each one with some others.
	stride := 1 + len(numbers)/40
	for i, lo := range numbers {
		stabs(t, v, len(all), lo, meeting(l, lo, lo)...)
		for j := i % stride; j < len(numbers); j += stride {
			meets(t, v, len(all), lo, numbers[j], meeting(l, lo, numbers[j])...)
		}
	}
}

// The chapter's examples.

func TestTheChaptersExamples(t *testing.T) {
	l := []api.Span{span(1, 0, 4), span(2, 4, 9), span(3, 6, 6)}
	v := of(t, l...)
	stabs(t, v, 3, 4, 1, 2)
	stabs(t, v, 3, 7, 2)
	meets(t, v, 3, 5, 6, 2, 3)
	meets(t, v, 3, 10, 12)
	meets(t, v, 3, 6, 5)
	meets(t, v, 3, -3, 0, 1)
	holds(t, v, l, l)
}

// P9.1

func TestBuildOfWhatIsNotRight(t *testing.T) {
	cases := map[string][]api.Span{
		"the wrong way round":                  {span(1, 1, 0)},
		"the wrong way round, by all numbers":  {span(1, greatest, least)},
		"the first one the wrong way round":    {span(1, 5, 4), span(2, 0, 9), span(3, 1, 1)},
		"the last one the wrong way round":     {span(2, 0, 9), span(3, 1, 1), span(1, 5, 4)},
		"two of one name":                      {span(1, 0, 0), span(1, 0, 3)},
		"two that are the same":                {span(7, 0, 3), span(7, 0, 3)},
		"two of one name far from one another": {span(7, 0, 3), span(8, 1, 1), span(9, 2, 2), span(7, 9, 9)},
		"two of the least name":                {span(0, 0, 0), span(0, 1, 1)},
		"two of the greatest name":             {span(math.MaxUint32, 0, 0), span(1, 1, 1), span(math.MaxUint32, 0, 0)},
		"both":                                 {span(1, 1, 0), span(1, 0, 1)},
	}
	for name, l := range cases {
		t.Run(name, func(t *testing.T) {
			if v, errno := ivl.Build(l); v != nil || errno != api.ErrArg {
				t.Errorf("Build of %v: %v, %d", l, v, errno)
			}
		})
	}
}

func TestNoSpans(t *testing.T) {
	for _, l := range [][]api.Span{nil, {}} {
		v := of(t, l...)
		dropped(t, v, api.Span{}, false)
		dropped(t, v, span(1, 0, 4), false)
		meets(t, v, 0, least, greatest)
		holds(t, v, nil, nil)
	}
}

func TestLenGoesDownAsSpansAreDropped(t *testing.T) {
	l := samples.Spans(60, 40)
	v := of(t, l...)
	for i, x := range l {
		if v.Len() != len(l)-i {
			t.Fatalf("behind %d drops: Len: %d", i, v.Len())
		}
		dropped(t, v, span(x.ID, x.Lo, x.Hi+1), false)
		if v.Len() != len(l)-i {
			t.Fatalf("behind %d drops and one that was none: Len: %d", i, v.Len())
		}
		dropped(t, v, x, true)
	}
	if v.Len() != 0 {
		t.Errorf("behind all drops: Len: %d", v.Len())
	}
}

// P9.2

func TestWhatIsStabbedAtEndsAndBetween(t *testing.T) {
	v := of(t, span(5, -3, 2), span(9, 2, 2), span(1, 2, 8), span(7, 8, 11), span(3, 10, 20))
	cases := []struct {
		x    int64
		want []uint32
	}{
		{least, nil}, {-4, nil}, {-3, []uint32{5}}, {-2, []uint32{5}}, {1, []uint32{5}},
		{2, []uint32{1, 5, 9}}, {3, []uint32{1}}, {7, []uint32{1}}, {8, []uint32{1, 7}}, {9, []uint32{7}},
		{10, []uint32{3, 7}}, {11, []uint32{3, 7}}, {12, []uint32{3}}, {20, []uint32{3}}, {21, nil}, {greatest, nil},
	}
	for _, c := range cases {
		stabs(t, v, 5, c.x, c.want...)
	}
}

func TestWhatMeetsAPart(t *testing.T) {
	v := of(t, span(5, -3, 2), span(9, 2, 2), span(1, 3, 8), span(7, 8, 11), span(3, 20, 30))
	cases := []struct {
		name   string
		lo, hi int64
		want   []uint32
	}{
		{"one number, at which none is", 15, 15, nil},
		{"one number, at which one ends and one begins", 8, 8, []uint32{1, 7}},
		{"one number within one", 5, 5, []uint32{1}},
		{"between all, touching none", 12, 19, nil},
		{"up to where one begins", 12, 20, []uint32{3}},
		{"from where one ends", 11, 19, []uint32{7}},
		{"from where one ends, up to where one begins", 2, 3, []uint32{1, 5, 9}},
		{"just within one", 4, 7, []uint32{1}},
		{"over some whole ones", 0, 9, []uint32{1, 5, 7, 9}},
		{"all ends", -3, 30, []uint32{1, 3, 5, 7, 9}},
		{"more than all ends", -4, 31, []uint32{1, 3, 5, 7, 9}},
		{"all numbers", least, greatest, []uint32{1, 3, 5, 7, 9}},
		{"below all", -10, -4, nil},
		{"below all, up to the first", -10, -3, []uint32{5}},
		{"above all", 31, 40, nil},
		{"above all, from the last", 30, 40, []uint32{3}},
		{"from the least number", least, 2, []uint32{5, 9}},
		{"up to the greatest number", 9, greatest, []uint32{3, 7}},
		{"the wrong way round by one", 8, 7, nil},
		{"the wrong way round, within one", 7, 4, nil},
		{"the wrong way round, over all", 31, -4, nil},
		{"the wrong way round, by all numbers", greatest, least, nil},
	}
	for _, c := range cases {
		t.Run(c.name, func(t *testing.T) {
			meets(t, v, 5, c.lo, c.hi, c.want...)
		})
	}
}

func TestTheLeastAndTheGreatestNumber(t *testing.T) {
	l := []api.Span{span(4, least, greatest), span(3, least, least), span(2, greatest, greatest), span(1, least, -1), span(0, 0, greatest)}
	v := of(t, l...)
	stabs(t, v, 5, least, 1, 3, 4)
	stabs(t, v, 5, least+1, 1, 4)
	stabs(t, v, 5, greatest-1, 0, 4)
	stabs(t, v, 5, greatest, 0, 2, 4)
	meets(t, v, 5, least, least, 1, 3, 4)
	meets(t, v, 5, least+1, greatest-1, 0, 1, 4)
	meets(t, v, 5, greatest, greatest, 0, 2, 4)
	meets(t, v, 5, least, greatest, 0, 1, 2, 3, 4)
	meets(t, v, 5, greatest, least)
	holds(t, v, l, l)

	near := []api.Span{span(1, least+1, greatest-1)}
	v = of(t, near...)
	stabs(t, v, 1, least)
	stabs(t, v, 1, greatest)
	meets(t, v, 1, least, least+1, 1)
	meets(t, v, 1, greatest-1, greatest, 1)
	holds(t, v, near, near)
}

func TestNamesRiseAsNumbersOf32BitsDo(t *testing.T) {
	names := []uint32{math.MaxUint32, 0, 1 << 31, 1<<31 - 1, 10, 9, 1, 256, 255, 1 << 16}
	var l []api.Span
	for i, name := range names {
		l = append(l, span(name, int64(-i), int64(i)))
	}
	v := of(t, l...)
	slices.Sort(names)
	stabs(t, v, len(l), 0, names...)
	meets(t, v, len(l), -4, greatest, names...)
	holds(t, v, l, l)
}

// P9.3

func TestDropOfWhatIsNotThere(t *testing.T) {
	l := []api.Span{span(1, 0, 4), span(2, 4, 9), span(3, 6, 6)}
	v := of(t, l...)
	for _, x := range []api.Span{
		span(2, 0, 4), span(1, 4, 9), span(3, 0, 4), // another one's ends
		span(1, 0, 3), span(1, 0, 5), span(1, 1, 4), span(1, -1, 4), span(2, 4, 6), span(3, 6, 9), // one end alone
		span(1, 4, 0), span(1, 4, 4), span(1, 0, 0), span(1, least, greatest), span(1, greatest, least),
		span(0, 0, 4), span(4, 0, 4), span(math.MaxUint32, 6, 6), {}, // no such name
	} {
		dropped(t, v, x, false)
		holds(t, v, l, l)
	}
}

func TestDropOfOneThatWasDropped(t *testing.T) {
	l := []api.Span{span(1, 0, 4), span(2, 0, 4), span(3, 2, 4)}
	v := of(t, l...)
	for i, x := range l {
		dropped(t, v, x, true)
		for _, gone := range l[:i+1] {
			dropped(t, v, gone, false)
		}
		holds(t, v, l, l[i+1:])
	}
}

func TestOfSpansWithTheSameEndsTheNameTellsWhichGoes(t *testing.T) {
	l := []api.Span{span(9, -1, 1), span(4, -1, 1), span(6, -1, 1), span(5, -1, 1)}
	for at := range l {
		v := of(t, l...)
		dropped(t, v, l[at], true)
		holds(t, v, l, slices.Delete(slices.Clone(l), at, at+1))
	}
}

// P9.4: of no tree.

func TestNoTree(t *testing.T) {
	copied := *of(t, span(1, 0, 4))
	for name, v := range map[string]*ivl.Ivl{"nil": nil, "one that was not built": {}, "a copy of one that was": &copied} {
		t.Run(name, func(t *testing.T) {
			if v.Len() != 0 {
				t.Errorf("Len: %d", v.Len())
			}
			for _, x := range []int64{least, 0, 2, 4, greatest} {
				if names, touched := v.Stab(x); len(names) != 0 || touched != 0 {
					t.Errorf("Stab of %d: %v, %d", x, names, touched)
				}
				if names, touched := v.Meet(-x, x); len(names) != 0 || touched != 0 {
					t.Errorf("Meet of %d, %d: %v, %d", -x, x, names, touched)
				}
			}
			dropped(t, v, span(1, 0, 4), false)
			dropped(t, v, api.Span{}, false)
		})
	}
}

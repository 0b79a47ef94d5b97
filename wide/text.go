package wide

import (
	"math/bits"
	"slices"
	"strconv"
	"strings"

	"gridiron/api"
)

const (
	groupDigits = 19 // the most decimal digits that any uint64 has room for
	maxDigits   = 39 // of 2^128 - 1

	groupSize uint64 = 10_000_000_000_000_000_000 // 10^groupDigits
)

// Text tells the decimal digits of a, no 0 ahead of others.
func Text(a api.Wide) string {
	var text strings.Builder
	for _, group := range slices.Backward(groups(a)) {
		digits := strconv.FormatUint(group, 10)
		if text.Len() > 0 {
			// Behind another group the zeros ahead count.
			text.WriteString(strings.Repeat("0", groupDigits-len(digits)))
		}
		text.WriteString(digits)
	}
	return text.String()
}

// groups cuts a into groups of nineteen digits, the lowest first: so division finds them.
func groups(a api.Wide) []uint64 {
	var list []uint64
	for a.High != 0 || a.Low >= groupSize {
		above, group := cutGroup(a)
		list = append(list, group)
		a = above
	}
	return append(list, a.Low)
}

// cutGroup tells what is above the lowest nineteen digits of a, and what these are.
func cutGroup(a api.Wide) (api.Wide, uint64) {
	high, rest := a.High/groupSize, a.High%groupSize
	low, group := bits.Div64(rest, a.Low, groupSize)
	return api.Wide{High: high, Low: low}, group
}

// Parse tells the wide number whose digits s is; ErrWide, if there is none.
func Parse(s string) (api.Wide, api.Errno) {
	if !wellFormed(s) {
		return api.Wide{}, api.ErrWide
	}
	var a api.Wide
	for i := range len(s) {
		next, ok := putDigit(a, s[i]-'0')
		if !ok {
			return api.Wide{}, api.ErrWide
		}
		a = next
	}
	return a, api.OK
}

// wellFormed tells whether s is digits as Text writes them, and not too many for any wide number.
func wellFormed(s string) bool {
	if s == "" || len(s) > maxDigits || s[0] == '0' && len(s) > 1 {
		return false
	}
	for i := range len(s) {
		if s[i] < '0' || s[i] > '9' {
			return false
		}
	}
	return true
}

// putDigit tells ten times a and the digit; false, if that is 2^128 or more.
func putDigit(a api.Wide, digit byte) (api.Wide, bool) {
	upper := Mul(a.High, 10)
	if upper.High != 0 {
		return api.Wide{}, false
	}
	tenfold, ok := Add(api.Wide{High: upper.Low}, Mul(a.Low, 10))
	if !ok {
		return api.Wide{}, false
	}
	return Add(tenfold, Of(uint64(digit)))
}

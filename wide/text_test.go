package wide_test

import (
	"math/big"
	"strings"
	"testing"

	"gridiron/api"
	"gridiron/wide"
)

// P1.3

func TestTextAndParse(t *testing.T) {
	cases := []struct {
		a    api.Wide
		text string
	}{
		{nothing, "0"},
		{wide.Of(7), "7"},
		{wide.Of(10), "10"},
		{wide.Of(9_999_999_999_999_999_999), "9999999999999999999"},
		{wide.Of(10_000_000_000_000_000_000), "10000000000000000000"},
		{wide.Of(10_000_000_000_000_000_007), "10000000000000000007"},
		{wide.Of(most), "18446744073709551615"},
		{api.Wide{High: 1}, "18446744073709551616"},
		{api.Wide{High: 5, Low: 7766279631452241920}, "100000000000000000000"},
		{api.Wide{High: 5421010862427522170, Low: 687399551400673279}, "99999999999999999999999999999999999999"},
		{api.Wide{High: 5421010862427522170, Low: 687399551400673280}, "100000000000000000000000000000000000000"},
		{api.Wide{High: 5421010862427522170, Low: 687399551400673285}, "100000000000000000000000000000000000005"},
		{api.Wide{High: most - 1, Low: 1}, "340282366920938463426481119284349108225"},
		{api.Wide{High: most, Low: most - 1}, "340282366920938463463374607431768211454"},
		{greatest, "340282366920938463463374607431768211455"},
	}
	for _, c := range cases {
		if got := wide.Text(c.a); got != c.text {
			t.Errorf("Text(%v) = %q; want %q", c.a, got, c.text)
		}
		if got, errno := wide.Parse(c.text); got != c.a || errno != api.OK {
			t.Errorf("Parse(%q) = %v, %d; want %v", c.text, got, errno, c.a)
		}
	}
}

func TestTextAndParseAgainstBig(t *testing.T) {
	for _, a := range wides() {
		text := bigOf(a).String()
		if got := wide.Text(a); got != text {
			t.Errorf("Text(%v) = %q; want %q", a, got, text)
		}
		if got, errno := wide.Parse(text); got != a || errno != api.OK {
			t.Errorf("Parse(%q) = %v, %d; want %v", text, got, errno, a)
		}
	}
}

func TestParseEachCountOfDigits(t *testing.T) {
	for count := 1; count <= 60; count++ {
		for _, text := range []string{
			"1" + strings.Repeat("0", count-1),
			strings.Repeat("3", count),
			strings.Repeat("9", count),
		} {
			n, _ := new(big.Int).SetString(text, 10)
			want, ok := fromBig(n)
			got, errno := wide.Parse(text)
			if got != want || (errno == api.OK) != ok {
				t.Errorf("Parse(%q) = %v, %d; want %v, %v", text, got, errno, want, ok)
			}
		}
	}
}

func TestParseRefuses(t *testing.T) {
	greatestText := wide.Text(greatest)
	cases := map[string]string{
		"empty":                       "",
		"2^128":                       "340282366920938463463374607431768211456",
		"past 2^128 by its last ten":  "340282366920938463463374607431768211460",
		"past 2^128 in the middle":    "340282366920938463473374607431768211455",
		"past 2^128 at its beginning": "350000000000000000000000000000000000000",
		"most of 39 digits":           strings.Repeat("9", 39),
		"least of 40 digits":          "1" + strings.Repeat("0", 39),
		"2^128 and a bit, wrapped":    "3402823669209384634633746074317682114560",
		"2^192":                       "6277101735386680763835789423207666416102355444464034512896",
		"2^256":                       "115792089237316195423570985008687907853269984665640564039457584007913129639936",
		"many digits":                 strings.Repeat("1", 1<<16),
		"many zeros":                  strings.Repeat("0", 1<<16),
		"two zeros":                   "00",
		"zeros ahead":                 "007",
		"a 0 ahead of the greatest":   "0" + greatestText,
		"a 0 ahead of 38 digits":      "0" + strings.Repeat("1", 38),
		"plus":                        "+1",
		"minus":                       "-1",
		"minus nothing":               "-0",
		"a sign alone":                "-",
		"space ahead":                 " 1",
		"space behind":                "1 ",
		"a line's end":                "1\n",
		"space inside":                "1 2",
		"a point":                     "1.0",
		"a power":                     "1e3",
		"base sixteen":                "0x1",
		"letters":                     "ff",
		"gathered digits":             "1_000",
		"a zero byte":                 "1\x00",
		"the byte ahead of 0":         "1/",
		"the byte behind 9":           "1:",
		"first of them no digit":      ":1",
		"a high byte":                 "1\xff",
		"digits of another script":    "١٢",
		"wide digits":                 "１",
	}
	for name, text := range cases {
		if got, errno := wide.Parse(text); got != nothing || errno != api.ErrWide {
			t.Errorf("%s: Parse of %d bytes = %v, %d; want ErrWide", name, len(text), got, errno)
		}
	}
}

func TestParseRefusesAllBytesButDigits(t *testing.T) {
	for b := range 256 {
		digit := b >= '0' && b <= '9'
		for _, text := range []string{string([]byte{byte(b)}), string([]byte{'4', byte(b), '2'})} {
			got, errno := wide.Parse(text)
			if digit != (errno == api.OK) || !digit && (got != nothing || errno != api.ErrWide) {
				t.Errorf("Parse(%q) = %v, %d", text, got, errno)
			}
		}
	}
}

package codec_test

import (
	"math"
	"math/big"
	"strings"
	"testing"

	"prelude/codec"
)

// 1.9: Digits, and Number of them.
func TestDigits(t *testing.T) {
	for _, c := range []struct {
		n    int64
		want string
	}{
		{0, "0"},
		{7, "7"},
		{-7, "-7"},
		{10, "10"},
		{-12, "-12"},
		{1000000, "1000000"},
		{math.MaxInt64, "9223372036854775807"},
		{math.MinInt64, "-9223372036854775808"},
		{math.MinInt64 + 1, "-9223372036854775807"},
	} {
		if s := codec.Digits(c.n); s != c.want {
			t.Errorf("Digits(%d) is %q", c.n, s)
		}
		if n, ok := codec.Number(c.want); n != c.n || !ok {
			t.Errorf("Number(%q) is %d, %t", c.want, n, ok)
		}
	}
	if s := codec.Digits(math.MinInt64); len(s) != 20 {
		t.Errorf("the least number has %d characters", len(s))
	}
}

// 1.9: on both sides of every power of ten and of two.
func TestDigitsThereAndBack(t *testing.T) {
	check := func(n int64) {
		s := codec.Digits(n)
		if want := big.NewInt(n).String(); s != want {
			t.Errorf("Digits(%d) is %q", n, s)
		}
		if back, ok := codec.Number(s); back != n || !ok {
			t.Errorf("Number(%q) is %d, %t", s, back, ok)
		}
	}
	for shift := range 64 {
		for off := int64(-1); off <= 1; off++ {
			check(1<<shift + off)
			check(-(1 << shift) + off)
		}
	}
	for power, i := int64(1), 0; i < 19; power, i = power*10, i+1 {
		for off := int64(-1); off <= 1; off++ {
			check(power + off)
			check(-power + off)
		}
	}
}

// 1.9: texts that are no number's Digits.
func TestNumberRefuses(t *testing.T) {
	for _, s := range []string{
		"", "-", "+", "--1", "-0", "+0", "00", "007", "-07", "+7", " 7", "7 ", "7\n", "\t7", "12x", "x12", "1_000", "1e3", "1.0", "0x10", "0b1", "1-", "-+1",
		"9223372036854775808", "-9223372036854775809", "18446744073709551616", "18446744073709551617", "-18446744073709551615",
		"99999999999999999999", "٣", "１", "7\x00", "\xff", "−7", strings.Repeat("0", 1000), strings.Repeat("9", 1000), "1" + strings.Repeat("0", 1000),
	} {
		if n, ok := codec.Number(s); n != 0 || ok {
			t.Errorf("Number(%q) is %d, %t", s, n, ok)
		}
	}
}

// 1.9: of all short texts of signs, digits and others just those are numbers whose Digits they are.
func TestNumberOfAllShortTexts(t *testing.T) {
	const letters = "-+019 x"
	numbers := map[string]bool{}
	for n := int64(-999); n <= 9999; n++ {
		numbers[codec.Digits(n)] = true
	}
	var walk func(s string)
	walk = func(s string) {
		n, ok := codec.Number(s)
		if ok != numbers[s] || ok && codec.Digits(n) != s || !ok && n != 0 {
			t.Errorf("Number(%q) is %d, %t", s, n, ok)
		}
		if len(s) == 4 {
			return
		}
		for _, c := range letters {
			walk(s + string(c))
		}
	}
	walk("")
}

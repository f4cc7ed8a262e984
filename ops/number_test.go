package ops_test

import (
	"math"
	"math/big"
	"strings"
	"testing"

	"plunder/api"
	"plunder/ops"
)

// 1.7, 1.8
func TestTextsOfNumbers(t *testing.T) {
	for _, c := range []struct {
		v    int64
		text string
	}{
		{0, "0"}, {1, "1"}, {9, "9"}, {10, "10"}, {-1, "-1"}, {-12, "-12"}, {100, "100"}, {-100, "-100"}, {1000000, "1000000"}, {102030, "102030"},
		{math.MaxInt64 - 1, "9223372036854775806"}, {math.MaxInt64, "9223372036854775807"}, {math.MinInt64 + 1, "-9223372036854775807"}, {math.MinInt64, "-9223372036854775808"},
	} {
		if text := ops.Format(c.v); text != c.text {
			t.Errorf("Format(%d) = %q, want %q", c.v, text, c.text)
		}
		if v, err := ops.Parse(c.text); v != c.v || err != api.OK {
			t.Errorf("Parse(%q) = %d, %d, want %d, OK", c.text, v, err, c.v)
		}
	}
}

// 1.7, 1.8: around every power of 2 and of 10, where a digit or a bit comes in.
func TestTextsThereAndBack(t *testing.T) {
	for _, base := range []int64{2, 10} {
		for p := int64(1); p > 0 && p <= math.MaxInt64/base; p *= base {
			for d := int64(-2); d <= 2; d++ {
				for _, v := range []int64{p + d, -p + d, p*base - 1, -p * base} {
					want := big.NewInt(v).String()
					if text := ops.Format(v); text != want {
						t.Errorf("Format(%d) = %q, want %q", v, text, want)
					}
					if got, err := ops.Parse(want); got != v || err != api.OK {
						t.Errorf("Parse(%q) = %d, %d, want %d, OK", want, got, err, v)
					}
				}
			}
		}
	}
}

// 1.8
func TestParseRefusesWhatFormatNeverTells(t *testing.T) {
	for _, text := range []string{
		"", "-", "-0", "00", "07", "-07", "-00", "+7", "+0", "--1", "1-", "-1-", "1_000", " ", " 1", "1 ", "1\n", "\t1", "0x1", "1e3", "1.0", "a", "1a", "/", ":", "1/", "1:", "\x00", "1\x00", "\xff", "1\xff", "\u0661", "1\u0661", "\u22121", "\uff11",
		"9223372036854775808", "9223372036854775810", "9223372036854775817", "10000000000000000000", "18446744073709551615", "18446744073709551616", "18446744073709551617", "99999999999999999999",
		"-9223372036854775809", "-9223372036854775810", "-9999999999999999999", "09223372036854775807", "00000000000000000000",
	} {
		if v, err := ops.Parse(text); v != 0 || err != api.ErrForm {
			t.Errorf("Parse(%q) = %d, %d, want 0, ErrForm", text, v, err)
		}
	}
}

// 1.8: the length is looked at ahead of what is in the text, and is one of bytes.
func TestParseRefusesLongTexts(t *testing.T) {
	for _, text := range []string{
		strings.Repeat("0", 21), "-99999999999999999999", "100000000000000000000", strings.Repeat("x", 21), strings.Repeat("\u0661", 11), strings.Repeat(" ", 100000),
	} {
		if v, err := ops.Parse(text); v != 0 || err != api.ErrLong {
			t.Errorf("Parse of %d bytes = %d, %d, want 0, ErrLong", len(text), v, err)
		}
	}
	for _, text := range []string{strings.Repeat("x", 20), strings.Repeat("\u0661", 10)} {
		if v, err := ops.Parse(text); v != 0 || err != api.ErrForm {
			t.Errorf("Parse(%q) = %d, %d, want 0, ErrForm", text, v, err)
		}
	}
}

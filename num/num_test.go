package num

import (
	"math"
	"slices"
	"strconv"
	"strings"
	"testing"

	"bobstay/api"
)

// long is a length that no number's digits need.
const long = 1 << 20

// short is a text for a message.
func short(s string) string {
	if len(s) > 100 {
		return strconv.Quote(s[:100]) + ".. of " + strconv.Itoa(len(s)) + " bytes"
	}
	return strconv.Quote(s)
}

// parsed holds a text to its number.
func parsed(t *testing.T, s string, want int) {
	t.Helper()
	if n, e := Parse(s); n != want || e != api.OK {
		t.Errorf("Parse(%s) = %d, %v, want %d", short(s), n, e, want)
	}
	if !Is(s) {
		t.Errorf("Is(%s) = false, want true", short(s))
	}
}

// refused holds texts to an error.
func refused(t *testing.T, want api.Errno, texts ...string) {
	t.Helper()
	for _, s := range texts {
		if n, e := Parse(s); n != 0 || e != want {
			t.Errorf("Parse(%s) = %d, %v, want 0, %v", short(s), n, e, want)
		}
		if Is(s) {
			t.Errorf("Is(%s) = true, want false", short(s))
		}
	}
}

// compared holds two texts to how they stand, from both sides.
func compared(t *testing.T, a, b string, want int) {
	t.Helper()
	if got, e := Compare(a, b); got != want || e != api.OK {
		t.Errorf("Compare(%s, %s) = %d, %v, want %d", short(a), short(b), got, e, want)
	}
	if got, e := Compare(b, a); got != -want || e != api.OK {
		t.Errorf("Compare(%s, %s) = %d, %v, want %d", short(b), short(a), got, e, -want)
	}
	ordered(t, a, b, want)
}

// ordered holds two texts to their order, from both sides.
func ordered(t *testing.T, a, b string, want int) {
	t.Helper()
	if got := Order(a, b); got != want {
		t.Errorf("Order(%s, %s) = %d, want %d", short(a), short(b), got, want)
	}
	if got := Order(b, a); got != -want {
		t.Errorf("Order(%s, %s) = %d, want %d", short(b), short(a), got, -want)
	}
}

// summed holds numbers to their sum.
func summed(t *testing.T, want int, l ...int) {
	t.Helper()
	if got, e := Sum(l...); got != want || e != api.OK {
		t.Errorf("Sum(%d) = %d, %v, want %d", l, got, e, want)
	}
}

// tooMany holds numbers to having no sum that may be.
func tooMany(t *testing.T, l ...int) {
	t.Helper()
	if got, e := Sum(l...); got != 0 || e != api.ErrMany {
		t.Errorf("Sum(%d) = %d, %v, want 0, ErrMany", l, got, e)
	}
}

func TestExample(t *testing.T) {
	parsed(t, "-0x1F", -31)
	compared(t, "10", "9", 1)
	ordered(t, "x10", "x9", -1)
}

// P9.1: numbers that may be.
func TestParse(t *testing.T) {
	for s, want := range map[string]int{
		"0": 0, "-0": 0, "+0": 0, "0x0": 0, "-0x0": 0, "+0X0": 0,
		"1": 1, "-1": -1, "+1": 1, "9": 9, "1234567890": 1234567890,
		"010": 10, "-08": -8, "+09": 9,
		"0xa": 10, "0Xa": 10, "0xA": 10, "0XF": 15, "-0xf": -15, "+0xF": 15,
		"0x1234567890": 0x1234567890, "0xabcdef": 0xabcdef, "0XABCDEF": 0xabcdef, "0xAbCdEf": 0xabcdef,
		"0x10": 16, "-0x10": -16, "0xe1": 0xe1, "0x0b1": 0xb1,
	} {
		parsed(t, s, want)
	}
}

// P9.1: the first and the last number that may be, and those beside them.
func TestParseBounds(t *testing.T) {
	parsed(t, "4611686018427387904", 1<<62)
	parsed(t, "+4611686018427387904", 1<<62)
	parsed(t, "-4611686018427387904", -1<<62)
	parsed(t, "4611686018427387903", 1<<62-1)
	parsed(t, "-4611686018427387903", -1<<62+1)
	parsed(t, "0x4000000000000000", 1<<62)
	parsed(t, "-0x4000000000000000", -1<<62)
	parsed(t, "0x3fffFFFFffffFFFF", 1<<62-1)
	refused(t, api.ErrMany,
		"4611686018427387905", "+4611686018427387905", "-4611686018427387905",
		"0x4000000000000001", "-0x4000000000000001", "0X7fffffffffffffff", "0x8000000000000000",
		"9223372036854775807", "9223372036854775808", "-9223372036854775808", "-9223372036854775809",
		"18446744073709551615", "18446744073709551616", "18446744073709551617", "-18446744073709551616",
		"0xffffffffffffffff", "0x10000000000000000", "0x10000000000000001", "-0x10000000000000000",
		"340282366920938463463374607431768211456", "0x100000000000000000000000000000000",
		strings.Repeat("9", long), "-1"+strings.Repeat("0", long), "0x"+strings.Repeat("f", long))
}

// P9.1: texts of no number.
func TestParseForm(t *testing.T) {
	refused(t, api.ErrForm,
		"", "-", "+", "x", "0x", "0X", "-0x", "+0X", "x1", "X1", "a", "f", "-a", "1a", "1f", "0f", "1x", "1x1", "10x1", "00x1", "-00x1", "0xg", "0x1g", "0xG",
		"0x0x1", "0xx1", "0Xx", "--1", "++1", "+-1", "-+1", "- 1", "1-", "1+", "1-1", "0x-1", "0x+1", "-0x-1", "0x 1", "0-x1",
		" 1", "1 ", "\t1", "1\t", "1\n", "\n1", " ", "1 1", "1_0", "_1", "0_1", "0x_1", "0x1_0", "0b1", "0B1", "0o7", "0O7", "1.0", "1.", ".1", "1e3", "1,0", "$1",
		"'1'", "\"1\"", "inf", "NaN", "0x1p4", "/", ":", "1/", "1:", "0x@", "0x`", "0x/", "1\x00", "\x001", "\xff", "1\xff", "\u0661", "\uff11", "1\u00a0", "\u22121")
}

// P9.1: the form is asked ahead of the size.
func TestParseFormAheadOfSize(t *testing.T) {
	refused(t, api.ErrForm,
		"99999999999999999999x", "99999999999999999999 ", "-99999999999999999999-", "4611686018427387905a", "0xfffffffffffffffffg", "9x9999999999999999999999",
		strings.Repeat("9", long)+"x", "0x"+strings.Repeat("f", long)+"g", strings.Repeat("0", long)+"x1")
}

// P9.1: one byte alone, and behind each beginning, may stand there, or may not.
func TestParseEachByte(t *testing.T) {
	for c := range 256 {
		b := string([]byte{byte(c)})
		isDigit := strings.Contains("0123456789", b)
		isHex := strings.Contains("0123456789abcdefABCDEF", b)
		for _, ahead := range []string{"", "-", "+", "5", "-5", "00"} {
			if got := Is(ahead + b); got != isDigit {
				t.Errorf("Is(%q) = %t, want %t", ahead+b, got, isDigit)
			}
		}
		for _, ahead := range []string{"0x", "0X", "-0x", "+0X", "0xa", "0x5"} {
			if got := Is(ahead + b); got != isHex {
				t.Errorf("Is(%q) = %t, want %t", ahead+b, got, isHex)
			}
		}
	}
}

// P9.1: a number's digits.
func TestFormat(t *testing.T) {
	for n, want := range map[int]string{
		0: "0", 1: "1", -1: "-1", 10: "10", 31: "31", -31: "-31", 1000000: "1000000", -1 << 62: "-4611686018427387904", 1 << 62: "4611686018427387904",
		math.MaxInt: "9223372036854775807", math.MinInt: "-9223372036854775808",
	} {
		if got := Format(n); got != want {
			t.Errorf("Format(%d) = %q, want %q", n, got, want)
		}
	}
}

// P9.2: numbers, as they stand.
func TestCompare(t *testing.T) {
	compared(t, "1", "2", -1)
	compared(t, "2", "2", 0)
	compared(t, "2", "10", -1)
	compared(t, "-2", "-10", 1)
	compared(t, "-1", "1", -1)
	compared(t, "-1", "0", -1)
	compared(t, "-0", "+0", 0)
	compared(t, "+7", "7", 0)
	compared(t, "0x1F", "31", 0)
	compared(t, "0xff", "0XFF", 0)
	compared(t, "0x10", "11", 1)
	compared(t, "-0x10", "-15", -1)
	compared(t, "4611686018427387904", "-4611686018427387904", 1)
	compared(t, "4611686018427387904", "0x4000000000000000", 0)
	compared(t, "4611686018427387903", "4611686018427387904", -1)
	compared(t, "-4611686018427387903", "-4611686018427387904", 1)
}

// P9.2: the first error, of a, then of b.
func TestCompareErrors(t *testing.T) {
	const great, none = "4611686018427387905", "x"
	for _, c := range []struct {
		a, b string
		want api.Errno
	}{
		{none, "1", api.ErrForm}, {"1", none, api.ErrForm}, {great, "1", api.ErrMany}, {"1", great, api.ErrMany},
		{none, great, api.ErrForm}, {great, none, api.ErrMany}, {none, none, api.ErrForm}, {great, great, api.ErrMany},
		{"", "", api.ErrForm}, {"1", "", api.ErrForm}, {"", "1", api.ErrForm}, {"-", "+", api.ErrForm},
	} {
		if got, e := Compare(c.a, c.b); got != 0 || e != c.want {
			t.Errorf("Compare(%q, %q) = %d, %v, want 0, %v", c.a, c.b, got, e, c.want)
		}
	}
}

// P9.2: numbers ahead of what is none, and that byte by byte.
func TestOrder(t *testing.T) {
	ordered(t, "1", "", -1)
	ordered(t, "1", "!", -1)
	ordered(t, "9", "-", -1)
	ordered(t, "9", "1x", -1)
	ordered(t, "9", "0x", -1)
	ordered(t, "4611686018427387904", " ", -1)
	ordered(t, "", "", 0)
	ordered(t, "", "a", -1)
	ordered(t, "a", "b", -1)
	ordered(t, "a", "ab", -1)
	ordered(t, "B", "a", -1)
	ordered(t, "a", "\xff", -1)
	ordered(t, "\u00e9", "\xff", -1)
	ordered(t, "ab", "ab", 0)
	ordered(t, "x1", "x01", 1)
	ordered(t, " 10", " 9", -1)
}

// P9.2: a number that may not be is none.
func TestOrderOfGreat(t *testing.T) {
	const great = "4611686018427387905"
	ordered(t, "5", great, -1)
	ordered(t, "10", great, -1)
	ordered(t, "10", "-"+great, -1)
	ordered(t, "-4611686018427387904", "-"+great, -1)
	ordered(t, great, great, 0)
	ordered(t, great, "0"+great, 1)
	ordered(t, great, "10000000000000000000", 1)
	ordered(t, great, "x", -1)
	ordered(t, great, "!", 1)
	ordered(t, great, "-", 1)
	ordered(t, great, "-"+great, 1)
	ordered(t, great, great+" ", -1)
}

// P9.2: sums.
func TestSum(t *testing.T) {
	summed(t, 0)
	summed(t, 0, []int{}...)
	summed(t, 5, 5)
	summed(t, -5, -5)
	summed(t, 6, 1, 2, 3)
	summed(t, -2, 1, -6, 3)
	summed(t, 1<<62, 1<<62)
	summed(t, -1<<62, -1<<62)
	summed(t, 1<<62, 1<<62-1, 1)
	summed(t, -1<<62, -1<<62+1, -1)
	summed(t, 0, 1<<62, -1<<62)
	summed(t, 0, -1<<62, 1<<62)
	summed(t, 1<<62, 1<<62, -1<<62, 1<<62)
	summed(t, 1<<62, 1<<62, 0, 0)
	summed(t, 1<<62, slices.Repeat([]int{-1 << 61, 1 << 61, 1 << 60}, 4)...)
}

// P9.2: sums that may not be, also on the way.
func TestSumTooGreat(t *testing.T) {
	tooMany(t, 1<<62+1)
	tooMany(t, -1<<62-1)
	tooMany(t, math.MaxInt)
	tooMany(t, math.MinInt)
	tooMany(t, 1<<62, 1)
	tooMany(t, -1<<62, -1)
	tooMany(t, 1<<62, 1<<62)
	tooMany(t, -1<<62, -1<<62)
	tooMany(t, 1<<62, 1<<62, 1<<62, 1<<62)
	tooMany(t, -1<<62, -1<<62, -1<<62, -1<<62)
	tooMany(t, 1<<62, 1, -1)
	tooMany(t, -1<<62, -1, 1)
	tooMany(t, 1, 1<<62, -1)
	tooMany(t, -1, -1<<62, 1)
	tooMany(t, -1, 1<<62+1)
	tooMany(t, 1, -1<<62-1)
	tooMany(t, -1<<62, math.MaxInt)
	tooMany(t, 1<<62, math.MinInt)
	tooMany(t, 0, 0, math.MinInt, 0)
}

// R4: the numbers that were handed in stay as they were.
func TestSumLeavesList(t *testing.T) {
	l := []int{3, -1, 2}
	summed(t, 4, l...)
	if !slices.Equal(l, []int{3, -1, 2}) {
		t.Errorf("Sum turned its list to %d", l)
	}
}

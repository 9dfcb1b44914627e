package decimal_test

import (
	"math/big"
	"regexp"
	"strconv"
	"strings"
	"testing"

	"lexicon/api"
	"lexicon/decimal"
)

// parts of a number's text: its sign, what is ahead of the point, behind it, and the power.
var shape = regexp.MustCompile(`^(-?)(0|[1-9][0-9]*)(?:\.([0-9]+))?(?:[eE]([+-]?[0-9]+))?$`)

// read is the answer that the chapter's words ask of Parse.
func read(text string) (api.Decimal, api.Errno) {
	if len(text) > 1000 {
		return api.Decimal{}, api.ErrLong
	}
	m := shape.FindStringSubmatch(text)
	if m == nil {
		return api.Decimal{}, api.ErrDecimal
	}
	n, _ := new(big.Int).SetString(m[2]+m[3], 10)
	if m[1] != "" {
		n.Neg(n)
	}
	exp := new(big.Int)
	if m[4] != "" {
		exp.SetString(m[4], 10)
	}
	exp.Sub(exp, big.NewInt(int64(len(m[3]))))
	switch {
	case n.Sign() == 0:
		return api.Decimal{}, api.OK
	case exp.CmpAbs(big.NewInt(1_000_000)) > 0:
		return api.Decimal{}, api.ErrRange
	}
	return decimalOf(n, int(exp.Int64()))
}

// parses complains if Parse answers anything but what is wanted.
func parses(t *testing.T, text string, want api.Decimal, code api.Errno) {
	t.Helper()
	if d, e := decimal.Parse(text); d != want || e != code {
		t.Errorf("P7.1: Parse of %.60q (%d bytes): %v, %d, not %v, %d", text, len(text), d, e, want, code)
	}
}

// TestParse: P7.1: the chapter's examples, and the edges of each part of a text.
func TestParse(t *testing.T) {
	for text, want := range map[string]api.Decimal{
		"120": dec("12", 1), "-0.5": dec("-5", -1), "1e3": dec("1", 3), "0e99999": {}, "-0": {}, "1.50E-2": dec("15", -3), "1e1000": dec("1", 1000),
		"0": {}, "0.0": {}, "-0.000": {}, "0e0": {}, "0E+1": {}, "-0.00e-99999999999999999999999999": {}, "0e1001": {}, "0.0e-1001": {}, "0e9223372036854775808": {},
		"1": dec("1", 0), "-1": dec("-1", 0), "10": dec("1", 1), "-10": dec("-1", 1), "100.00": dec("1", 2), "0.1": dec("1", -1), "0.10": dec("1", -1), "0.010": dec("1", -2), "1.0": dec("1", 0),
		"12.34": dec("1234", -2), "1e0": dec("1", 0), "1e-0": dec("1", 0), "1e+0": dec("1", 0), "1E5": dec("1", 5), "1E+5": dec("1", 5), "1e-5": dec("1", -5), "1e005": dec("1", 5), "1e-005": dec("1", -5), "1e+000": dec("1", 0),
		"1e0001000": dec("1", 1000), "1e-0001000": dec("1", -1000), "1e-1000": dec("1", -1000), "-1e-1000": dec("-1", -1000), "10e999": dec("1", 1000), "0.1e1001": dec("1", 1000), "0.01e1002": dec("1", 1000), "10e-1001": dec("1", -1000), "1.0e-1000": dec("1", -1000),
		"100e-1002": dec("1", -1000), "1.5e-999": dec("15", -1000), "1.5e1001": dec("15", 1000), "1.0e1000": dec("1", 1000), "9999999990000000000": dec("999999999", 10), "1000000000": dec("1", 9), "1000000001": dec("1000000001", 0), "10000000000000000000000.0": dec("1", 22),
		"9007199254740993": dec("9007199254740993", 0), "123456789.987654321": dec("123456789987654321", -9),
	} {
		parses(t, text, want, api.OK)
	}
	for _, text := range []string{"01", "1.", ".5", "+1", "1e", "", "-", "--1", "-01", "00", "-00", "00.1", "0.", "-.5", ".", "e", "e1", "-e1", ".e1", "1.e1", "1e+", "1e-", "1e+-1", "1e--1", "1e1.5", "1e1e1", "1ee1", "1.2.3", "0e", "0x10", "0b1", "0o7",
		"1 ", " 1", "1\n", "\t1", "1_000", "1,5", "1a", "a", "1e1a", "1.5a", "1e5 ", "-", "- 1", "1-", "1+1", "1.-5", "1.+5", "inf", "Infinity", "-Infinity", "NaN", "nan", "1f", "1p3", "0x1p3", "1/2", "1\x00", "\x00", "\x001", "1e1\x00", "1.\x00", "1e\x00", "\xff", "1\xff", "\xd9\xa1", "1\xd9\xa1", "\xef\xbc\x91", "\xe2\x88\x921", "1\xc2\xb2", "/", ":", "1/", "1:", "1./", "1.:", "1e/", "1e:", "/1", ":1", "null", "\"1\"", "01e1001", "1e1001x", "1e99999999999999999999.", "0e1001x"} {
		parses(t, text, api.Decimal{}, api.ErrDecimal)
	}
	for _, text := range []string{"1e1001", "10e1000", "-1e1001", "1e-1001", "-1e-1001", "0.1e-1000", "0.1e1002", "100e999", "10e-1002", "1.5e-1000", "15e1001", "1e2147483648", "1e4294967296", "1e4294967297", "1e9223372036854775807", "1e9223372036854775808", "1e18446744073709551616", "1e18446744073709551617", "1e-18446744073709551616", "1e-9223372036854775809", "1e99999999999999999999", "1e-99999999999999999999"} {
		parses(t, text, api.Decimal{}, api.ErrRange)
	}
}

// TestParseLong: P7.1: texts of 1000 bytes and of 1001, numbers of 100 digits and of 101.
func TestParseLong(t *testing.T) {
	zeros, nines := func(n int) string { return strings.Repeat("0", n) }, func(n int) string { return strings.Repeat("9", n) }
	for _, x := range []struct {
		text string
		want api.Decimal
		e    api.Errno
	}{
		{nines(100), dec(nines(100), 0), api.OK}, {nines(101), api.Decimal{}, api.ErrRange}, {"-" + nines(100), dec("-"+nines(100), 0), api.OK},
		{nines(100) + zeros(900), dec(nines(100), 900), api.OK}, {nines(101) + zeros(899), api.Decimal{}, api.ErrRange}, {nines(100) + "." + zeros(899), dec(nines(100), 0), api.OK},
		{nines(100) + "e1000", dec(nines(100), 1000), api.OK}, {nines(100) + "e1001", api.Decimal{}, api.ErrRange}, {nines(101) + "e-1000", api.Decimal{}, api.ErrRange}, {nines(100) + "e-1000", dec(nines(100), -1000), api.OK},
		{"1" + zeros(99) + "1", api.Decimal{}, api.ErrRange}, {"1" + zeros(98) + "1", dec("1"+zeros(98)+"1", 0), api.OK}, {"0." + nines(100), dec(nines(100), -100), api.OK}, {"0." + nines(101), api.Decimal{}, api.ErrRange},
		{"0." + zeros(500) + nines(100) + zeros(398), dec(nines(100), -600), api.OK}, {"0." + zeros(500) + nines(101) + zeros(397), api.Decimal{}, api.ErrRange},
		{"1" + zeros(999), dec("1", 999), api.OK}, {"1" + zeros(1000), api.Decimal{}, api.ErrLong}, {"-1" + zeros(998), dec("-1", 998), api.OK}, {"-1" + zeros(999), api.Decimal{}, api.ErrLong},
		{"0." + zeros(997) + "1", dec("1", -998), api.OK}, {"0." + zeros(998) + "1", api.Decimal{}, api.ErrLong}, {"0." + zeros(998), api.Decimal{}, api.OK}, {"0." + zeros(999), api.Decimal{}, api.ErrLong},
		{"0." + zeros(992) + "1e1993", dec("1", 1000), api.OK}, {"0." + zeros(992) + "1e1994", api.Decimal{}, api.ErrRange}, {"0." + zeros(992) + "1e9999", api.Decimal{}, api.ErrRange}, {"0." + zeros(992) + "1e-007", dec("1", -1000), api.OK}, {"0." + zeros(992) + "1e-008", api.Decimal{}, api.ErrRange},
		{"1" + zeros(993) + "e-1993", dec("1", -1000), api.OK}, {"1" + zeros(993) + "e-1994", api.Decimal{}, api.ErrRange}, {"1" + zeros(995) + "e005", dec("1", 1000), api.OK}, {"1" + zeros(995) + "e006", api.Decimal{}, api.ErrRange},
		{"1e" + zeros(997) + "5", dec("1", 5), api.OK}, {"1e" + zeros(998) + "5", api.Decimal{}, api.ErrLong}, {"1e-" + zeros(996) + "5", dec("1", -5), api.OK}, {"1e" + nines(998), api.Decimal{}, api.ErrRange}, {"1e-" + nines(997), api.Decimal{}, api.ErrRange},
		{"0e" + nines(998), api.Decimal{}, api.OK}, {"0e-" + nines(997), api.Decimal{}, api.OK}, {"0e" + nines(999), api.Decimal{}, api.ErrLong}, {nines(1000), api.Decimal{}, api.ErrRange}, {nines(1001), api.Decimal{}, api.ErrLong},
		{strings.Repeat("x", 1000), api.Decimal{}, api.ErrDecimal}, {strings.Repeat("x", 1001), api.Decimal{}, api.ErrLong}, {strings.Repeat("1", 1<<20), api.Decimal{}, api.ErrLong}, {zeros(1000), api.Decimal{}, api.ErrDecimal}, {"1" + zeros(998) + "x", api.Decimal{}, api.ErrDecimal}, {"1" + zeros(998) + "e", api.Decimal{}, api.ErrDecimal},
	} {
		parses(t, x.text, x.want, x.e)
	}
}

// TestParseAll: P7.1: all texts of a number's letters, up to 6 of them, against the chapter's words.
func TestParseAll(t *testing.T) {
	for _, text := range texts("-+.e012", 6) {
		want, e := read(text)
		parses(t, text, want, e)
	}
	for b := range 256 {
		for _, at := range []string{"*", "1*", "*1", "1*1", "-*", "-0*", "0*1", "1.*", "1.5*", "1e*", "1e*1", "1e+*", "1e1*", "1.5*1"} {
			text := strings.ReplaceAll(at, "*", string([]byte{byte(b)}))
			want, e := read(text)
			parses(t, text, want, e)
		}
	}
}

// someText is a number's text of no plain order, some with a fault.
func someText(next func(int) int) string {
	digits := func(most int) string {
		b := make([]byte, 1+next(most))
		for i := range b {
			b[i] = "0000123456789"[next(13)]
		}
		return string(b)
	}
	most := []int{3, 12, 60, 120, 600}[next(5)]
	text := ""
	if next(2) == 0 {
		text = "-"
	}
	if ahead := strings.TrimLeft(digits(most), "0"); ahead == "" || next(5) == 0 {
		text += "0"
	} else {
		text += ahead
	}
	if next(2) == 0 {
		text += "." + digits(most)
	}
	if next(4) > 0 {
		text += string("eE"[next(2)]) + []string{"", "+", "-"}[next(3)]
		if next(6) == 0 {
			text += digits(30)
		} else {
			text += strings.Repeat("0", next(3)) + strconv.Itoa(next([]int{10, 1005, 1600}[next(3)]))
		}
	}
	if at := next(len(text)); next(8) == 0 {
		text = text[:at] + string("+-.eE0 9"[next(8)]) + text[at+next(2):]
	}
	return text
}

// TestParseSome: P7.1: texts of no plain order, long ones and wrong ones among them, against the chapter's words.
func TestParseSome(t *testing.T) {
	next, met := numbers(3), map[api.Errno]int{}
	for range 30_000 {
		text := someText(next)
		want, e := read(text)
		parses(t, text, want, e)
		met[e]++
	}
	for _, e := range []api.Errno{api.OK, api.ErrLong, api.ErrDecimal, api.ErrRange} {
		if met[e] < 10 {
			t.Errorf("P7.1: %d met %d times only", e, met[e])
		}
	}
}

// told is the text that the chapter's words ask of a decimal that may be.
func told(d api.Decimal) string {
	sign, n := "", len(d.Digits)
	if d.Neg {
		sign = "-"
	}
	switch p := n + d.Exp; {
	case n == 0:
		return "0"
	case p >= -5 && p <= 21:
		whole, rest := new(big.Int).QuoRem(lifted(d), power(10, 1000), new(big.Int))
		text := sign + whole.Abs(whole).String()
		if d.Exp < 0 {
			behind := rest.Abs(rest).String()
			text += "." + strings.TrimRight(strings.Repeat("0", 1000-len(behind))+behind, "0")
		}
		return text
	default:
		text := sign + d.Digits[:1]
		if n > 1 {
			text += "." + d.Digits[1:]
		}
		return text + "e" + strconv.Itoa(p-1)
	}
}

// TestText: P7.1: p at both ends of what is written out and past them, with powers below 0, of 0 and above it.
func TestText(t *testing.T) {
	d22, ones := "1234567890123456789012", strings.Repeat("1", 98)
	for _, x := range []struct {
		digits string
		exp    int
		want   string
	}{
		{"", 0, "0"}, {"12", 1, "120"}, {"15", -3, "0.015"}, {"1", 20, "100000000000000000000"}, {"1", 21, "1e21"}, {"5", -6, "0.000005"}, {"5", -7, "5e-7"}, {"123", 30, "1.23e32"}, {"-15", -8, "-1.5e-7"},
		{"1", 0, "1"}, {"-1", 0, "-1"}, {"1", 1, "10"}, {"-1", 1, "-10"}, {"1", -1, "0.1"}, {"-1", -1, "-0.1"}, {"1", -2, "0.01"}, {"12", -1, "1.2"}, {"-12", -1, "-1.2"}, {"12", -2, "0.12"}, {"12", -3, "0.012"}, {"123", -2, "1.23"}, {"123", -1, "12.3"},
		{"12", -7, "0.0000012"}, {"-12", -7, "-0.0000012"}, {"12", -8, "1.2e-7"}, {"-5", -7, "-5e-7"}, {"1", -1000, "1e-1000"}, {"-1", 1000, "-1e1000"}, {"12", 1000, "1.2e1001"}, {"12", -1000, "1.2e-999"},
		{"12", 19, "120000000000000000000"}, {"12", 20, "1.2e21"}, {"-12", 20, "-1.2e21"},
		{d22[:21], 0, "123456789012345678901"}, {d22[:19], 2, "123456789012345678900"}, {d22, -1, "123456789012345678901.2"}, {d22, 0, "1.234567890123456789012e21"}, {d22[:21], 1, "1.23456789012345678901e21"}, {d22 + "3", -1, "1.2345678901234567890123e21"}, {"-" + d22, -1, "-123456789012345678901.2"},
		{d22, -21, "1.234567890123456789012"}, {d22, -22, "0.1234567890123456789012"}, {d22, -27, "0.000001234567890123456789012"}, {d22, -28, "1.234567890123456789012e-7"},
		{"1" + ones + "2", -100, "0.1" + ones + "2"}, {"1" + ones + "2", -99, "1." + ones + "2"}, {"1" + ones + "2", -79, "1" + ones[:20] + "." + ones[20:] + "2"}, {"1" + ones + "2", -78, "1." + ones + "2e21"}, {"1" + ones + "2", -105, "0.000001" + ones + "2"}, {"1" + ones + "2", -106, "1." + ones + "2e-7"},
		{"-1" + ones + "2", -1000, "-1." + ones + "2e-901"}, {"1" + ones + "2", 1000, "1." + ones + "2e1099"}, {"1" + ones + "2", 0, "1." + ones + "2e99"},
	} {
		if text, e := decimal.Text(dec(x.digits, x.exp)); text != x.want || e != api.OK {
			t.Errorf("P7.1: Text of %s, %d: %q, %d, not %q", x.digits, x.exp, text, e, x.want)
		}
	}
	for _, d := range pool() {
		if text, e := decimal.Text(d); text != told(d) || e != api.OK {
			t.Errorf("P7.1: Text of %v: %q, %d, not %q", d, text, e, told(d))
		}
	}
	for _, digits := range digitLists() {
		for p := -8; p <= 24; p++ {
			d := dec(digits, p-len(digits))
			if text, e := decimal.Text(d); text != told(d) || e != api.OK {
				t.Errorf("P7.1: Text of %v: %q, %d, not %q", d, text, e, told(d))
			}
		}
	}
}

// TestTextAgain: P7.5: Parse of Text is the decimal; Text of Parse tells the same number, and is its own text again.
func TestTextAgain(t *testing.T) {
	for _, d := range pool() {
		text, _ := decimal.Text(d)
		if back, e := decimal.Parse(text); back != d || e != api.OK {
			t.Errorf("P7.5: Parse of Text of %v, %q: %v, %d", d, text, back, e)
		}
	}
	next := numbers(4)
	for range 10_000 {
		text := someText(next)
		d, e := decimal.Parse(text)
		if e != api.OK {
			continue
		}
		once, e := decimal.Text(d)
		same, ok := read(once)
		if want, _ := read(text); e != api.OK || ok != api.OK || same != want {
			t.Errorf("P7.5: Text of Parse of %q: %q, %d", text, once, e)
		}
		again, _ := decimal.Parse(once)
		if twice, _ := decimal.Text(again); twice != once {
			t.Errorf("P7.5: Text of Parse of Text: %q, not %q", twice, once)
		}
	}
}

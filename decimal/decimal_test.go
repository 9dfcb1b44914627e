package decimal_test

import (
	"math"
	"math/big"
	"regexp"
	"strconv"
	"strings"
	"testing"
	"unsafe"

	"lexicon/api"
	"lexicon/decimal"
)

// wants complains of an answer that is another one than the one that is wanted.
func wants[T comparable](t *testing.T, call string, got, want T) {
	t.Helper()
	if got != want {
		t.Errorf("%s: %v, not %v", call, got, want)
	}
}

// dec is a decimal, below 0 if its digits have a - ahead.
func dec(digits string, exp int) api.Decimal {
	rest, neg := strings.CutPrefix(digits, "-")
	return api.Decimal{Neg: neg, Digits: rest, Exp: exp}
}

// numbers tells pseudo-random numbers from 0 to n - 1.
func numbers(seed uint64) func(n int) int {
	return func(n int) int {
		seed = seed*6364136223846793005 + 1442695040888963407
		return int(seed >> 33 % uint64(n))
	}
}

// power is a number to a power.
func power(of, to int64) *big.Int { return new(big.Int).Exp(big.NewInt(of), big.NewInt(to), nil) }

// lifted is the number times 10 to the power 1000: a whole number, of all that may be.
func lifted(d api.Decimal) *big.Int {
	n := new(big.Int)
	if d.Digits != "" {
		n.SetString(d.Digits, 10)
	}
	n.Mul(n, power(10, int64(d.Exp)+1000))
	if d.Neg {
		n.Neg(n)
	}
	return n
}

// decimalOf is the decimal of a number times 10 to a power, and ErrRange if it has none.
func decimalOf(n *big.Int, exp int) (api.Decimal, api.Errno) {
	if n.Sign() == 0 {
		return api.Decimal{}, api.OK
	}
	all := new(big.Int).Abs(n).String()
	digits := strings.TrimRight(all, "0")
	exp += len(all) - len(digits)
	if len(digits) > 100 || exp < -1000 || exp > 1000 {
		return api.Decimal{}, api.ErrRange
	}
	return api.Decimal{Neg: n.Sign() < 0, Digits: digits, Exp: exp}, api.OK
}

// digitLists are digits that matter: at the ends of words of 9, of int64, of all that may be; those
// of 2 and 5 to great powers, whose products have few.
func digitLists() []string {
	return []string{"1", "2", "3", "5", "6", "7", "9", "11", "12", "15", "25", "75", "99", "101", "512", "625",
		"99999999", "123456789", "999999999", "1000000001", "1999999999", "999999999999999999", "100000000000000001", "1000000001000000001",
		"500000000499999999", "999999998000000001", "9223372036854775807", "9223372036854775808", "9223372036854775809", "18446744073709551615", "18446744073709551616",
		"123456789012345678901", "1234567890123456789012", strings.Repeat("9", 99), strings.Repeat("9", 100), "1" + strings.Repeat("0", 98) + "1",
		"4" + strings.Repeat("9", 99), strings.Repeat("123456789", 11) + "1", power(2, 332).String(), power(5, 143).String(), power(3, 209).String(), power(7, 100).String()}
}

// pool are decimals that may be: of all digits that matter with all powers that do, with both signs, and 0.
func pool() []api.Decimal {
	l := []api.Decimal{{}}
	for _, digits := range digitLists() {
		for _, exp := range []int{-1000, -999, -500, -106, -105, -100, -99, -27, -18, -10, -9, -8, -7, -6, -1, 0, 1, 2, 8, 9, 10, 17, 18, 19, 20, 21, 99, 100, 500, 999, 1000} {
			l = append(l, dec(digits, exp), dec("-"+digits, exp))
		}
	}
	return l
}

// above are those of the pool that are above 0.
func above() []api.Decimal {
	var l []api.Decimal
	for _, d := range pool() {
		if !d.Neg && d.Digits != "" {
			l = append(l, d)
		}
	}
	return l
}

// wrong are decimals that may not be.
func wrong() []api.Decimal {
	l := []api.Decimal{
		{Neg: true}, {Exp: 1}, {Exp: -1}, {Exp: 1000}, {Neg: true, Exp: 1}, {Exp: math.MinInt}, {Exp: math.MaxInt},
		dec("1", -1001), dec("1", 1001), dec("-1", -1001), dec("-1", 1001), dec("1", math.MinInt), dec("1", math.MaxInt), dec("12", math.MaxInt-1),
		dec("0", 0), dec("-0", 0), dec("00", 0), dec("0", 1), dec("10", 0), dec("01", 0), dec("010", 0), dec("100", -2), dec("-10", 0), dec("-01", 0),
		dec("0"+strings.Repeat("1", 99), 0), dec(strings.Repeat("1", 99)+"0", 0),
		dec(strings.Repeat("1", 101), 0), dec("-"+strings.Repeat("1", 101), -50), dec("1"+strings.Repeat("0", 99)+"1", 0), dec(strings.Repeat("9", 1<<20), 0),
		dec("+1", 0), dec("--1", 0), dec("1.5", 0), dec("1e1", 0), dec(" 1", 0), dec("1 ", 0), dec("1_1", 0), dec("1,1", 0), dec("0x1", 0), dec("a", 0), dec("1a", 0), dec("a1", 0),
		dec("\x00", 0), dec("1\x001", 0), dec("1\xff", 0), dec("\xc2\xb2", 0), dec("1\xd9\xa11", 0), dec("\xef\xbc\x91", 0),
	}
	for b := range 256 {
		if b < '0' || b > '9' {
			l = append(l, dec("1"+string([]byte{byte(b)})+"1", 0))
		}
	}
	return l
}

// right are some that may be, to be handed in beside those that may not.
func right() []api.Decimal {
	return []api.Decimal{{}, dec("1", 0), dec("-5", -1), dec("3", 1000), dec(strings.Repeat("9", 100), -1000)}
}

// TestCheck: P7.1: what may be is OK, and nothing else is.
func TestCheck(t *testing.T) {
	for _, d := range append(pool(), right()...) {
		wants(t, "P7.1: Check of what may be", decimal.Check(d), api.OK)
	}
	for _, d := range wrong() {
		if e := decimal.Check(d); e != api.ErrArg {
			t.Errorf("P7.1: Check of %.50q %d: %d", d.Digits, d.Exp, e)
		}
	}
	may := regexp.MustCompile(`^[1-9]([0-9]{0,98}[1-9])?$`)
	for _, digits := range texts("0195/:", 5) {
		for _, neg := range []bool{false, true} {
			for _, exp := range []int{-1001, -1000, -1, 0, 1, 1000, 1001} {
				d := api.Decimal{Neg: neg, Digits: digits, Exp: exp}
				want := api.ErrArg
				if d == (api.Decimal{}) || may.MatchString(digits) && exp >= -1000 && exp <= 1000 {
					want = api.OK
				}
				if e := decimal.Check(d); e != want {
					t.Errorf("P7.1: Check of %v: %d, not %d", d, e, want)
				}
			}
		}
	}
	for n := range 110 {
		if n > 0 {
			wants(t, "P7.1: Check of digits", decimal.Check(dec(strings.Repeat("7", n), 0)) == api.OK, n <= 100)
		}
	}
}

// texts are all texts of these letters, of up to so many.
func texts(letters string, most int) []string {
	all := []string{""}
	from := 0
	for range most {
		to := len(all)
		for _, text := range all[from:to] {
			for _, letter := range letters {
				all = append(all, text+string(letter))
			}
		}
		from = to
	}
	return all
}

// TestFromInt: P7.2: the decimal of each number, and the number of its decimal.
func TestFromInt(t *testing.T) {
	wants(t, "P7.2: FromInt of 0", decimal.FromInt(0), api.Decimal{})
	wants(t, "P7.2: FromInt of 1", decimal.FromInt(1), dec("1", 0))
	wants(t, "P7.2: FromInt of -1", decimal.FromInt(-1), dec("-1", 0))
	wants(t, "P7.2: FromInt of 120", decimal.FromInt(120), dec("12", 1))
	wants(t, "P7.2: FromInt of -10^18", decimal.FromInt(-1e18), dec("-1", 18))
	wants(t, "P7.2: FromInt of -2^63", decimal.FromInt(math.MinInt64), dec("-9223372036854775808", 0))
	wants(t, "P7.2: FromInt of 2^63 - 1", decimal.FromInt(math.MaxInt64), dec("9223372036854775807", 0))
	for _, n := range ints() {
		want, _ := decimalOf(big.NewInt(n), 0)
		d := decimal.FromInt(n)
		wants(t, "P7.2: FromInt of "+strconv.FormatInt(n, 10), d, want)
		back, ok := decimal.Int(d)
		wants(t, "P7.2: Int of FromInt", back, n)
		wants(t, "P7.2: Int of FromInt is there", ok, true)
		wants(t, "P7.2: Whole of FromInt", decimal.Whole(d), true)
		wants(t, "P7.2: Check of FromInt", decimal.Check(d), api.OK)
	}
}

// ints are numbers at the ends of int64, about 0, at powers of 2 and 10, and some of no plain order.
func ints() []int64 {
	var l []int64
	for shift := range 64 {
		for by := int64(-2); by <= 2; by++ {
			l = append(l, 1<<shift+by, -1<<shift+by)
		}
	}
	for p := int64(1); p <= 1e17; p *= 10 {
		l = append(l, p, -p, p-1, p+1, 37*p, -92*p)
	}
	next := numbers(1)
	for range 500 {
		n := int64(next(1<<31))<<33 ^ int64(next(1<<31))<<10 ^ int64(next(1<<10))
		l = append(l, n, n>>next(63))
	}
	return l
}

// TestInt: P7.2: at both ends of int64, one past them, and of what is not whole, too great, or may not be.
func TestInt(t *testing.T) {
	for _, x := range []struct {
		d    api.Decimal
		want int64
		ok   bool
	}{
		{api.Decimal{}, 0, true}, {dec("1", 0), 1, true}, {dec("-1", 0), -1, true}, {dec("12", 1), 120, true}, {dec("-12", 1), -120, true},
		{dec("5", -1), 0, false}, {dec("-5", -1), 0, false}, {dec("15", -1), 0, false}, {dec("1", -1000), 0, false}, {dec("12345678901234567891", -1), 0, false},
		{dec("9223372036854775807", 0), math.MaxInt64, true}, {dec("9223372036854775808", 0), 0, false},
		{dec("-9223372036854775808", 0), math.MinInt64, true}, {dec("-9223372036854775809", 0), 0, false},
		{dec("1", 18), 1e18, true}, {dec("9", 18), 9e18, true}, {dec("-9", 18), -9e18, true}, {dec("1", 19), 0, false}, {dec("-1", 19), 0, false},
		{dec("922337203685477581", 1), 0, false}, {dec("-922337203685477581", 1), 0, false}, {dec("9999999999999999999", 0), 0, false}, {dec("-9999999999999999999", 0), 0, false},
		{dec("18446744073709551616", 0), 0, false}, {dec("18446744073709551617", 0), 0, false}, {dec("-18446744073709551617", 0), 0, false},
		{dec("1", 64), 0, false}, {dec("1", 1000), 0, false}, {dec(strings.Repeat("9", 100), 1000), 0, false},
	} {
		n, ok := decimal.Int(x.d)
		if n != x.want || ok != x.ok {
			t.Errorf("P7.2: Int of %v: %d, %t", x.d, n, ok)
		}
	}
	for _, d := range wrong() {
		n, ok := decimal.Int(d)
		if n != 0 || ok || decimal.Whole(d) {
			t.Errorf("P7.2: Int of %.50q %d, which may not be: %d, %t; or Whole", d.Digits, d.Exp, n, ok)
		}
	}
	one := power(10, 1000)
	for _, d := range pool() {
		n, ok := decimal.Int(d)
		whole, rest := new(big.Int).QuoRem(lifted(d), one, new(big.Int))
		wants(t, "P7.2: Whole", decimal.Whole(d), rest.Sign() == 0)
		if want := rest.Sign() == 0 && whole.IsInt64(); ok != want || ok && n != whole.Int64() || !ok && n != 0 {
			t.Errorf("P7.2: Int of %v: %d, %t", d, n, ok)
		}
	}
}

// TestWhole: P7.2: what may be, and has nothing behind its point.
func TestWhole(t *testing.T) {
	for _, d := range []api.Decimal{{}, dec("1", 0), dec("-1", 0), dec("1", 1), dec("12", 1000), dec("-12", 1000), dec(strings.Repeat("3", 100), 0)} {
		wants(t, "P7.2: Whole of "+d.Digits, decimal.Whole(d), true)
	}
	for _, d := range []api.Decimal{dec("1", -1), dec("-1", -1), dec("15", -1), dec("1", -1000), dec(strings.Repeat("3", 100), -1), {Exp: 1}, {Neg: true}, dec("10", 0), dec("10", -1), dec("1", 1001)} {
		wants(t, "P7.2: Whole of "+d.Digits, decimal.Whole(d), false)
	}
}

// TestCompare: P7.3: numbers far apart, of other signs, equal ones, and such as begin alike.
func TestCompare(t *testing.T) {
	for _, x := range []struct {
		a, b api.Decimal
		want int
	}{
		{dec("1", 3), dec("999", 0), 1}, {dec("999", 0), dec("1", 3), -1}, {dec("1", 3), dec("1", 3), 0}, {api.Decimal{}, api.Decimal{}, 0},
		{dec("1", 1000), dec("1", -1000), 1}, {dec("-1", 1000), dec("-1", -1000), -1}, {dec("-1", 1000), dec("1", -1000), -1}, {dec("1", -1000), dec("-1", 1000), 1},
		{api.Decimal{}, dec("1", -1000), -1}, {api.Decimal{}, dec("-1", -1000), 1}, {dec("1", -1000), api.Decimal{}, 1}, {dec("-1", -1000), api.Decimal{}, -1},
		{api.Decimal{}, dec("1", 1000), -1}, {dec("-1", 1000), api.Decimal{}, -1}, {dec("1", 0), dec("-1", 0), 1},
		{dec("12", 0), dec("123", -1), -1}, {dec("123", -1), dec("12", 0), 1}, {dec("-12", 0), dec("-123", -1), 1}, {dec("9", -1), dec("10001", -4), -1},
		{dec("5", -7), dec("5", -6), -1}, {dec("2", 0), dec("11", 0), -1}, {dec("-2", 0), dec("-11", 0), 1},
	} {
		n, e := decimal.Compare(x.a, x.b)
		if n != x.want || e != api.OK {
			t.Errorf("P7.3: Compare of %v and %v: %d, %d, not %d", x.a, x.b, n, e, x.want)
		}
	}
	all := pool()
	great := make([]*big.Int, len(all))
	for i, d := range all {
		great[i] = lifted(d)
	}
	next := numbers(2)
	for range 200_000 {
		i, j := next(len(all)), next(len(all))
		if n, e := decimal.Compare(all[i], all[j]); n != great[i].Cmp(great[j]) || e != api.OK {
			t.Fatalf("P7.3: Compare of %v and %v: %d, %d", all[i], all[j], n, e)
		}
	}
}

// TestNeg: P7.3: the other sign, of 0 none.
func TestNeg(t *testing.T) {
	for _, d := range pool() {
		want := d
		want.Neg = !d.Neg && d.Digits != ""
		n, e := decimal.Neg(d)
		if n != want || e != api.OK {
			t.Errorf("P7.3: Neg of %v: %v, %d", d, n, e)
		}
	}
}

// TestWrong: P7.1, P7.3, P7.4: ErrArg of each that may not be, in each place, and nothing beside it.
func TestWrong(t *testing.T) {
	for _, d := range wrong() {
		refused := func(call string, zero bool, e api.Errno) {
			t.Helper()
			if e != api.ErrArg || !zero {
				t.Errorf("%s with %.50q %d, %t: %d, or something beside it", call, d.Digits, d.Exp, d.Neg, e)
			}
		}
		text, e := decimal.Text(d)
		refused("P7.1: Text", text == "", e)
		n, e := decimal.Neg(d)
		refused("P7.3: Neg", n == api.Decimal{}, e)
		n, e = decimal.Sum(d)
		refused("P7.3: Sum", n == api.Decimal{}, e)
		n, e = decimal.Sum(dec("9", 1000), dec("9", 1000), d)
		refused("P7.3: Sum that is too great", n == api.Decimal{}, e)
		for _, o := range append(right(), d) {
			order, e := decimal.Compare(d, o)
			refused("P7.3: Compare", order == 0, e)
			order, e = decimal.Compare(o, d)
			refused("P7.3: Compare", order == 0, e)
			n, e = decimal.Sum(d, o, o)
			refused("P7.3: Sum", n == api.Decimal{}, e)
			n, e = decimal.Sum(o, o, d)
			refused("P7.3: Sum", n == api.Decimal{}, e)
			n, e = decimal.Mul(d, o)
			refused("P7.3: Mul", n == api.Decimal{}, e)
			n, e = decimal.Mul(o, d)
			refused("P7.3: Mul", n == api.Decimal{}, e)
			ok, e := decimal.Multiple(d, o)
			refused("P7.4: Multiple", !ok, e)
			ok, e = decimal.Multiple(o, d)
			refused("P7.4: Multiple", !ok, e)
			n, e = decimal.Common(d, o)
			refused("P7.4: Common", n == api.Decimal{}, e)
			n, e = decimal.Common(o, d)
			refused("P7.4: Common", n == api.Decimal{}, e)
		}
	}
}

// TestMemory: P7.1, P7.3: answers share no bytes with what was handed in.
func TestMemory(t *testing.T) {
	within := func(a, b string) bool {
		at, from := uintptr(unsafe.Pointer(unsafe.StringData(a))), uintptr(unsafe.Pointer(unsafe.StringData(b)))
		return a != "" && at >= from && at < from+uintptr(len(b))
	}
	d := dec("1234567", 0)
	n, _ := decimal.Neg(d)
	text, _ := decimal.Text(d)
	sum, _ := decimal.Sum(d)
	one, _ := decimal.Mul(d, dec("1", 0))
	least, _ := decimal.Common(d, dec("1", 0))
	given := "7654321"
	read, _ := decimal.Parse(given)
	wants(t, "P7.3: Neg shares", within(n.Digits, d.Digits), false)
	wants(t, "P7.1: Text shares", within(text, d.Digits), false)
	wants(t, "P7.3: Sum shares", within(sum.Digits, d.Digits), false)
	wants(t, "P7.3: Mul shares", within(one.Digits, d.Digits), false)
	wants(t, "P7.4: Common shares", within(least.Digits, d.Digits), false)
	wants(t, "P7.1: Parse shares", within(read.Digits, given), false)
}

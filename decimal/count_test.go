package decimal_test

import (
	"math/big"
	"slices"
	"strings"
	"testing"

	"lexicon/api"
	"lexicon/decimal"
)

// sums complains if Sum answers anything but what is wanted.
func sums(t *testing.T, want api.Decimal, code api.Errno, l ...api.Decimal) {
	t.Helper()
	given := slices.Clone(l)
	if d, e := decimal.Sum(l...); d != want || e != code {
		t.Errorf("P7.3: Sum of %.300v: %v, %d, not %v, %d", l, d, e, want, code)
	}
	if !slices.Equal(l, given) {
		t.Errorf("P7.3: Sum changed what was handed in")
	}
}

// TestSum: P7.3: of none, of one, of many, far apart, and such as may not be in between.
func TestSum(t *testing.T) {
	nines, long := strings.Repeat("9", 100), "1"+strings.Repeat("0", 98)+"1"
	zero, one, minus, most, least := api.Decimal{}, dec("1", 0), dec("-1", 0), dec("9", 1000), dec("1", -1000)
	none := api.Decimal{}
	sums(t, zero, api.OK)
	sums(t, zero, api.OK, []api.Decimal{}...)
	sums(t, zero, api.OK, zero)
	sums(t, zero, api.OK, zero, zero, zero)
	sums(t, dec("3", -1), api.OK, dec("1", -1), dec("2", -1))
	sums(t, dec("2", 0), api.OK, one, one)
	sums(t, zero, api.OK, one, minus)
	sums(t, zero, api.OK, minus, one)
	sums(t, one, api.OK, one, minus, one)
	sums(t, minus, api.OK, minus, one, minus)
	sums(t, minus, api.OK, one, dec("-2", 0))
	sums(t, one, api.OK, dec("-1", 0), dec("2", 0))
	sums(t, dec("1", 1), api.OK, dec("5", 0), dec("5", 0))
	sums(t, dec("1", 1), api.OK, zero, dec("1", 1))
	sums(t, dec("1", 1), api.OK, dec("1", 1), zero)
	sums(t, dec("11", 0), api.OK, one, dec("1", 1))
	sums(t, dec("-11", -3), api.OK, dec("-1", -3), zero, dec("-1", -2))
	sums(t, dec("1", 9), api.OK, dec("999999999", 0), one)
	sums(t, dec("999999999", 0), api.OK, dec("1", 9), minus)
	sums(t, dec("-999999999", 0), api.OK, one, dec("-1", 9))
	sums(t, dec("1", 18), api.OK, dec("999999999999999999", 0), one)
	sums(t, dec("1", 100), api.OK, dec(nines, 0), one)
	sums(t, dec(nines, 0), api.OK, dec("1", 100), minus)
	sums(t, dec(long, 0), api.OK, dec("1", 99), one)
	sums(t, none, api.ErrRange, dec("1", 100), one)
	sums(t, none, api.ErrRange, dec(nines, 1), one)
	sums(t, none, api.ErrRange, dec("-1", 100), minus)

	sums(t, none, api.ErrRange, dec("1", 1000), least)
	sums(t, none, api.ErrRange, least, dec("-1", 1000))
	sums(t, least, api.OK, dec("1", 1000), least, dec("-1", 1000))
	sums(t, dec("-1", 1000), api.OK, dec("-1", 1000), dec("-1", -1000), least)
	sums(t, none, api.ErrRange, most, dec("1", 1000))
	sums(t, none, api.ErrRange, dec("-9", 1000), dec("-1", 1000))
	sums(t, most, api.OK, most, dec("1", 1000), dec("-1", 1000))
	sums(t, dec("18", 1000), api.OK, most, most)
	sums(t, none, api.ErrRange, most, most, dec("2", 1000))
	sums(t, dec("1", -999), api.OK, dec("5", -1000), dec("5", -1000))
	sums(t, dec(nines, 1000), api.OK, dec(nines, 1000), zero)
	sums(t, none, api.ErrRange, dec(nines, 1000), dec("1", 1000))
	sums(t, zero, api.OK, dec(nines, 1000), dec("-"+nines, 1000))
	sums(t, zero, api.OK, dec(nines, 1000), dec(nines, -1000), dec("-"+nines, 1000), dec("-"+nines, -1000))
	for _, d := range pool() {
		other := d
		other.Neg = !d.Neg && d.Digits != ""
		sums(t, d, api.OK, d)
		sums(t, d, api.OK, zero, d)
		sums(t, d, api.OK, d, other, d)
		sums(t, zero, api.OK, other, d)
	}
	sums(t, dec("1", 5), api.OK, slices.Repeat([]api.Decimal{one}, 100_000)...)
	sums(t, dec("2", -998), api.OK, slices.Repeat([]api.Decimal{dec("1", -1000), dec("1", 1000), dec("-1", 1000)}, 200)...)
}

// TestSumSome: P7.3: sums of the pool's, of two and of more, against those of whole numbers.
func TestSumSome(t *testing.T) {
	all, next, met := pool(), numbers(5), map[api.Errno]int{}
	for range 20_000 {
		near := next(2) == 0
		l := []api.Decimal{all[next(len(all))]}
		for range 1 + next(4)*next(2) {
			d := all[next(len(all))]
			if near && d.Digits != "" {
				d.Exp = max(-1000, min(1000, l[0].Exp+next(60)-30))
			}
			l = append(l, d)
		}
		sum := new(big.Int)
		for _, d := range l {
			sum.Add(sum, lifted(d))
		}
		want, e := decimalOf(sum, -1000)
		sums(t, want, e, l...)
		met[e]++
	}
	if met[api.OK] < 1000 || met[api.ErrRange] < 1000 {
		t.Error("P7.3: sums of one kind only", met)
	}
}

// muls complains if Mul answers anything but what is wanted, the one way or the other.
func muls(t *testing.T, a, b, want api.Decimal, code api.Errno) {
	t.Helper()
	for range 2 {
		if d, e := decimal.Mul(a, b); d != want || e != code {
			t.Errorf("P7.3: Mul of %v and %v: %v, %d, not %v, %d", a, b, d, e, want, code)
		}
		a, b = b, a
	}
}

// TestMul: P7.3: with 0, with other signs, of 100 digits by 100, at the ends of powers and past them.
func TestMul(t *testing.T) {
	nines, zero, none := strings.Repeat("9", 100), api.Decimal{}, api.Decimal{}
	muls(t, dec("5", -1), dec("4", 0), dec("2", 0), api.OK)
	muls(t, zero, zero, zero, api.OK)
	for _, d := range []api.Decimal{dec("1", 0), dec("-1", 0), dec("1", 1000), dec("-1", -1000), dec("-"+nines, 1000), dec(nines, -1000)} {
		muls(t, zero, d, zero, api.OK)
		muls(t, dec("1", 0), d, d, api.OK)
		neg, _ := decimal.Neg(d)
		muls(t, dec("-1", 0), d, neg, api.OK)
	}
	muls(t, dec("-2", 0), dec("3", 0), dec("-6", 0), api.OK)
	muls(t, dec("-2", 0), dec("-3", 0), dec("6", 0), api.OK)
	muls(t, dec("-5", 0), dec("2", 0), dec("-1", 1), api.OK)
	muls(t, dec("999999999", 0), dec("999999999", 0), dec("999999998000000001", 0), api.OK)
	muls(t, dec("999999999999999999", 0), dec("999999999999999999", 0), dec("999999999999999998000000000000000001", 0), api.OK)
	muls(t, dec("1000000001", 0), dec("1000000001", 3), dec("1000000002000000001", 3), api.OK)

	muls(t, dec(nines, 0), dec(nines, 0), none, api.ErrRange)
	muls(t, dec(nines, 0), dec("-2", 0), none, api.ErrRange)
	muls(t, dec(nines, 0), dec("1", 5), dec(nines, 5), api.OK)
	muls(t, dec(strings.Repeat("9", 50), 0), dec(strings.Repeat("9", 50), 0), dec(strings.Repeat("9", 49)+"8"+strings.Repeat("0", 49)+"1", 0), api.OK)
	muls(t, dec(strings.Repeat("9", 51), 0), dec(strings.Repeat("9", 50), 0), none, api.ErrRange)
	two, five := dec(power(2, 332).String(), 0), dec(power(5, 143).String(), 0)
	if len(two.Digits) != 100 || len(five.Digits) != 100 {
		t.Fatal("P7.3: the test's digits are not 100", len(two.Digits), len(five.Digits))
	}
	muls(t, two, five, dec(power(2, 189).String(), 143), api.OK)
	muls(t, dec(two.Digits, 857), five, dec(power(2, 189).String(), 1000), api.OK)
	muls(t, dec(two.Digits, 858), five, none, api.ErrRange)
	muls(t, dec(two.Digits, -143), dec(five.Digits, -1000), dec(power(2, 189).String(), -1000), api.OK)
	muls(t, dec(two.Digits, -144), dec(five.Digits, -1000), none, api.ErrRange)

	muls(t, dec("1", 1000), dec("1", -1000), dec("1", 0), api.OK)
	muls(t, dec("1", 500), dec("-1", 500), dec("-1", 1000), api.OK)
	muls(t, dec("1", 501), dec("1", 500), none, api.ErrRange)
	muls(t, dec("1", -500), dec("1", -500), dec("1", -1000), api.OK)
	muls(t, dec("1", -500), dec("1", -501), none, api.ErrRange)
	muls(t, dec("1", 1000), dec("1", 1), none, api.ErrRange)
	muls(t, dec("1", 1000), dec("1", 1000), none, api.ErrRange)
	muls(t, dec("-1", -1000), dec("1", -1000), none, api.ErrRange)
	muls(t, dec("5", 1000), dec("2", 0), none, api.ErrRange)
	muls(t, dec("5", 999), dec("2", 0), dec("1", 1000), api.OK)
	muls(t, dec("5", -1000), dec("2", -1), dec("1", -1000), api.OK)
	muls(t, dec("5", -1000), dec("2", -2), none, api.ErrRange)
	muls(t, dec("3", 1000), dec("3", 0), dec("9", 1000), api.OK)
	muls(t, dec("3", 1000), dec("4", 0), dec("12", 1000), api.OK)

	all, next, met := pool(), numbers(6), map[api.Errno]int{}
	for range 10_000 {
		a, b := all[next(len(all))], all[next(len(all))]
		want, e := decimalOf(new(big.Int).Mul(lifted(a), lifted(b)), -2000)
		muls(t, a, b, want, e)
		met[e]++
	}
	if met[api.OK] < 1000 || met[api.ErrRange] < 1000 {
		t.Error("P7.3: products of one kind only", met)
	}
}

// TestMultiple: P7.4: of numbers below 0, of 0, with powers below 0, far apart.
func TestMultiple(t *testing.T) {
	for _, x := range []struct {
		d, by api.Decimal
		want  bool
		e     api.Errno
	}{
		{dec("3", -1), dec("1", -1), true, api.OK}, {dec("1", 0), dec("3", -1), false, api.OK}, {dec("-6", 0), dec("2", 0), true, api.OK}, {dec("1", 0), api.Decimal{}, false, api.ErrArg},
		{api.Decimal{}, api.Decimal{}, false, api.ErrArg}, {dec("6", 0), dec("-2", 0), false, api.ErrArg}, {dec("-6", 0), dec("-2", 0), false, api.ErrArg}, {dec("1", 0), dec("-1", -1000), false, api.ErrArg},
		{api.Decimal{}, dec("1", 0), true, api.OK}, {api.Decimal{}, dec("7", 1000), true, api.OK}, {api.Decimal{}, dec("7", -1000), true, api.OK},
		{dec("7", 0), dec("7", 0), true, api.OK}, {dec("-7", 0), dec("7", 0), true, api.OK}, {dec("7", 0), dec("2", 0), false, api.OK}, {dec("-7", 0), dec("2", 0), false, api.OK}, {dec("2", 0), dec("4", 0), false, api.OK}, {dec("-2", 0), dec("4", 0), false, api.OK},
		{dec("1", 0), dec("1", -1000), true, api.OK}, {dec("1", 1000), dec("1", -1000), true, api.OK}, {dec("1", -1000), dec("1", 1000), false, api.OK}, {dec("1", -1000), dec("1", 0), false, api.OK}, {dec("1", 1000), dec("3", -1000), false, api.OK}, {dec("3", 1000), dec("3", -1000), true, api.OK}, {dec("-3", 1000), dec("3", -1000), true, api.OK},
		{dec("1", 1), dec("1", 2), false, api.OK}, {dec("1", 2), dec("1", 1), true, api.OK}, {dec("1", 0), dec("25", -2), true, api.OK}, {dec("1", 0), dec("15", -2), false, api.OK}, {dec("75", -2), dec("25", -2), true, api.OK}, {dec("75", -2), dec("5", -1), false, api.OK},
		{dec("1", 9), dec("512", 0), true, api.OK}, {dec("1", 9), dec("1024", 0), false, api.OK}, {dec("1", 10), dec("1024", 0), true, api.OK}, {dec("5", 9), dec("1024", 0), false, api.OK}, {dec("6", 9), dec("1024", 0), true, api.OK},
		{dec("1", 332), dec(power(2, 332).String(), 0), true, api.OK}, {dec("1", 331), dec(power(2, 332).String(), 0), false, api.OK}, {dec("1", 1000), dec(power(2, 332).String(), 0), true, api.OK}, {dec("1", 142), dec(power(5, 143).String(), 0), false, api.OK}, {dec("1", 143), dec(power(5, 143).String(), 0), true, api.OK},
		{dec(strings.Repeat("9", 100), 1000), dec(strings.Repeat("9", 50), -1000), true, api.OK}, {dec(strings.Repeat("9", 99), 1000), dec(strings.Repeat("9", 50), -1000), false, api.OK}, {dec(strings.Repeat("9", 100), 1000), dec(strings.Repeat("9", 100), 999), true, api.OK}, {dec(strings.Repeat("9", 100), 999), dec(strings.Repeat("9", 100), 1000), false, api.OK},
		{dec("999999998000000001", 0), dec("999999999", 0), true, api.OK}, {dec("999999998000000003", 0), dec("999999999", 0), false, api.OK}, {dec("1000000002000000001", 0), dec("1000000001", 0), true, api.OK},
	} {
		if ok, e := decimal.Multiple(x.d, x.by); ok != x.want || e != x.e {
			t.Errorf("P7.4: Multiple of %v by %v: %t, %d", x.d, x.by, ok, e)
		}
	}
	all, next, met := pool(), numbers(7), map[bool]int{}
	for range 10_000 {
		d, by := all[next(len(all))], all[next(len(all))]
		if next(3) == 0 {
			if n, e := decimal.Mul(by, decimal.FromInt(int64(next(1<<31)-1<<30))); e == api.OK {
				d = n
			}
		}
		want, code := false, api.ErrArg
		if !by.Neg && by.Digits != "" {
			want, code = new(big.Int).Rem(lifted(d), lifted(by)).Sign() == 0, api.OK
		}
		if ok, e := decimal.Multiple(d, by); ok != want || e != code {
			t.Errorf("P7.4: Multiple of %v by %v: %t, %d, not %t, %d", d, by, ok, e, want, code)
		}
		met[want]++
	}
	if met[true] < 1000 || met[false] < 1000 {
		t.Error("P7.4: multiples of one kind only", met)
	}
}

// commons complains if Common answers anything but what is wanted, the one way or the other.
func commons(t *testing.T, a, b, want api.Decimal, code api.Errno) {
	t.Helper()
	for range 2 {
		if d, e := decimal.Common(a, b); d != want || e != code {
			t.Errorf("P7.4: Common of %v and %v: %v, %d, not %v, %d", a, b, d, e, want, code)
		}
		a, b = b, a
	}
}

// common is the least number that is a whole number times each of two.
func common(a, b api.Decimal) (api.Decimal, api.Errno) {
	if a.Neg || b.Neg || a.Digits == "" || b.Digits == "" {
		return api.Decimal{}, api.ErrArg
	}
	x, y := lifted(a), lifted(b)
	return decimalOf(x.Mul(x, y).Div(x, new(big.Int).GCD(nil, nil, lifted(a), y)), -1000)
}

// TestCommon: P7.4: of numbers below 0, of 0, with powers below 0, of great ones that have nothing in common.
func TestCommon(t *testing.T) {
	none := api.Decimal{}
	commons(t, dec("4", -1), dec("6", -1), dec("12", -1), api.OK)
	commons(t, dec("4", 0), dec("6", 0), dec("12", 0), api.OK)
	commons(t, dec("1", 0), dec("1", 0), dec("1", 0), api.OK)
	commons(t, dec("2", 0), dec("5", 0), dec("1", 1), api.OK)
	commons(t, dec("1", 0), dec("3", -1), dec("3", 0), api.OK)
	commons(t, dec("15", -2), dec("1", -1), dec("3", -1), api.OK)
	commons(t, dec("25", -2), dec("1", 1), dec("1", 1), api.OK)
	commons(t, dec("12", 0), dec("4", 0), dec("12", 0), api.OK)
	for _, d := range []api.Decimal{{}, dec("-1", 0), dec("-4", -1), dec("-1", 1000), dec("-1", -1000)} {
		commons(t, d, dec("6", 0), none, api.ErrArg)
		commons(t, d, api.Decimal{}, none, api.ErrArg)
		commons(t, d, dec("-6", 0), none, api.ErrArg)
		commons(t, d, d, none, api.ErrArg)
	}
	commons(t, dec("1", 1000), dec("1", -1000), dec("1", 1000), api.OK)
	commons(t, dec("1", 1000), dec("3", -1000), dec("3", 1000), api.OK)
	commons(t, dec("3", 1000), dec("7", 1000), dec("21", 1000), api.OK)
	commons(t, dec("2", 1000), dec("5", 1000), none, api.ErrRange)
	commons(t, dec("2", 999), dec("5", 999), dec("1", 1000), api.OK)
	commons(t, dec("2", -1000), dec("5", -1000), dec("1", -999), api.OK)
	commons(t, dec("2", 1000), dec("5", -1000), dec("2", 1000), api.OK)
	commons(t, dec(power(2, 332).String(), 0), dec(power(5, 143).String(), 0), dec(power(2, 189).String(), 143), api.OK)
	commons(t, dec(power(2, 332).String(), 1000), dec("5", 1000), none, api.ErrRange)
	commons(t, dec(power(2, 332).String(), 0), dec("1", 331), dec("2", 331), api.OK)
	commons(t, dec(power(3, 209).String(), 0), dec(power(7, 100).String(), 0), none, api.ErrRange)
	commons(t, dec(power(3, 100).String(), 0), dec(power(7, 60).String(), 0), dec(new(big.Int).Mul(power(3, 100), power(7, 60)).String(), 0), api.OK)
	nines := strings.Repeat("9", 100)
	commons(t, dec(nines, 1000), dec(nines, -1000), dec(nines, 1000), api.OK)
	commons(t, dec(nines, 0), dec(strings.Repeat("9", 50), 0), dec(nines, 0), api.OK)
	commons(t, dec(nines, 0), dec(strings.Repeat("9", 99), 0), none, api.ErrRange)
	commons(t, dec(nines, 0), dec(strings.Repeat("9", 99)+"8", 0), none, api.ErrRange)
	commons(t, dec("999999998000000001", 0), dec("999999999", 0), dec("999999998000000001", 0), api.OK)

	all, next, met := above(), numbers(8), map[api.Errno]int{}
	for range 4_000 {
		a, b := all[next(len(all))], all[next(len(all))]
		if next(2) == 0 {
			a, b = factors(next), factors(next)
		}
		want, code := common(a, b)
		commons(t, a, b, want, code)
		met[code]++
	}
	if met[api.OK] < 1000 || met[api.ErrRange] < 200 {
		t.Error("P7.4: answers of one kind only", met)
	}
}

// factors is a number above 0 that has small factors, and so much in common with others that are made like that.
func factors(next func(int) int) api.Decimal {
	n := big.NewInt(1)
	for _, p := range []int64{2, 3, 5, 7, 11, 999999937} {
		n.Mul(n, power(p, int64(next(9)*next(2))))
	}
	d, _ := decimalOf(n, next(60)-30)
	return d
}

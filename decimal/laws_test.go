package decimal_test

import (
	"slices"
	"strings"
	"testing"

	"lexicon/api"
	"lexicon/decimal"
)

// near are decimals of few digits and small powers, with both signs, and 0: what comes out of them may be, mostly.
func near(next func(int) int) api.Decimal {
	d, e := decimal.Parse([]string{"", "-"}[next(2)] + []string{"0", "1", "2", "5", "12", "999999999", "1000000001", "7", "123456789123"}[next(9)] + "." + []string{"0", "5", "25", "000000001", "999999999"}[next(5)] + []string{"", "e1", "e-3", "e9", "e-20", "e30"}[next(6)])
	if e != api.OK {
		panic("no number")
	}
	return d
}

// some is one of the pool, or one that is near.
func some(all []api.Decimal, next func(int) int) api.Decimal {
	if next(2) == 0 {
		return near(next)
	}
	return all[next(len(all))]
}

// must tells what comes out, and whether it may be.
func must(d api.Decimal, e api.Errno) (api.Decimal, bool) { return d, e == api.OK }

// compare is Compare of what may be.
func compare(t *testing.T, a, b api.Decimal) int {
	t.Helper()
	n, e := decimal.Compare(a, b)
	if e != api.OK {
		t.Fatalf("P7.3: Compare of %v and %v: %d", a, b, e)
	}
	return n
}

// TestOrder: P7.5: Compare is an order, and goes with Neg.
func TestOrder(t *testing.T) {
	all := pool()
	slices.SortFunc(all, func(a, b api.Decimal) int { return compare(t, a, b) })
	next := numbers(9)
	for range 100_000 {
		i, j := next(len(all)), next(len(all))
		n := compare(t, all[i], all[j])
		if i < j && n >= 0 || i > j && n <= 0 || i == j && n != 0 {
			t.Fatalf("P7.5: %v and %v are not in order: %d", all[i], all[j], n)
		}
		a, _ := decimal.Neg(all[i])
		b, _ := decimal.Neg(all[j])
		if compare(t, b, a) != n {
			t.Fatalf("P7.5: Compare of %v and %v does not go with Neg", all[i], all[j])
		}
	}
}

// TestOrderSum: P7.5: a is below b just if a and c is below b and c.
func TestOrderSum(t *testing.T) {
	all, next, many := pool(), numbers(10), 0
	for range 40_000 {
		a, b, c := some(all, next), some(all, next), some(all, next)
		if next(8) == 0 {
			b = a
		}
		x, one := must(decimal.Sum(a, c))
		y, two := must(decimal.Sum(b, c))
		if !one || !two {
			continue
		}
		many++
		if compare(t, a, b) != compare(t, x, y) {
			t.Fatalf("P7.5: Compare of %v and %v does not go with Sum of %v", a, b, c)
		}
	}
	if many < 5000 {
		t.Error("P7.5: too few sums that may be", many)
	}
}

// TestMulLaws: P7.5: Mul does not hang on the order, and goes with Sum, where all may be.
func TestMulLaws(t *testing.T) {
	all, next, many := pool(), numbers(11), 0
	for range 20_000 {
		a, b, c := some(all, next), some(all, next), some(all, next)
		x, one := must(decimal.Mul(a, b))
		again, e := must(decimal.Mul(b, a))
		if x != again || one != e {
			t.Fatalf("P7.5: Mul of %v and %v hangs on the order", a, b)
		}
		y, two := must(decimal.Mul(a, c))
		sum, three := must(decimal.Sum(b, c))
		if !one || !two || !three {
			continue
		}
		whole, four := must(decimal.Mul(a, sum))
		parts, five := must(decimal.Sum(x, y))
		if four != five || whole != parts {
			t.Fatalf("P7.5: Mul of %v with %v and %v does not go with Sum", a, b, c)
		}
		many++
	}
	if many < 2000 {
		t.Error("P7.5: too few products that may be", many)
	}
}

// TestCommonLaws: P7.5: a number is a multiple of a and of b just if it is one of Common; and Common is the least.
func TestCommonLaws(t *testing.T) {
	next, met := numbers(12), map[bool]int{}
	for range 4_000 {
		a, b := factors(next), factors(next)
		least, ok := must(decimal.Common(a, b))
		if !ok {
			continue
		}
		d := near(next)
		switch next(4) {
		case 0:
			d, ok = must(decimal.Mul(a, decimal.FromInt(int64(next(1000)-500))))
		case 1:
			d, ok = must(decimal.Mul(least, decimal.FromInt(int64(next(1000)-500))))
		case 2:
			d, ok = must(decimal.Mul(b, a))
		}
		if !ok {
			continue
		}
		one, _ := decimal.Multiple(d, a)
		two, _ := decimal.Multiple(d, b)
		both, e := decimal.Multiple(d, least)
		if both != (one && two) || e != api.OK {
			t.Fatalf("P7.5: %v of %v and %v, whose common one is %v: %t, %t, %t", d, a, b, least, one, two, both)
		}
		met[both]++
	}
	if met[true] < 500 || met[false] < 500 {
		t.Error("P7.5: multiples of one kind only", met)
	}
}

// TestLongLists: P7.3: lists whose sums have many words count as those of few do, and the same call answers the same.
func TestLongLists(t *testing.T) {
	l := slices.Repeat([]api.Decimal{dec(strings.Repeat("9", 100), 1000), dec("1", -1000), dec("-"+strings.Repeat("9", 100), 1000), dec("2", -1000)}, 500)
	for range 2 {
		sums(t, dec("15", -998), api.OK, l...)
	}
	slices.Reverse(l)
	sums(t, dec("15", -998), api.OK, l...)
}

package decimal

import "lexicon/api"

// Sum tells the sum of all.
func Sum(l ...api.Decimal) (api.Decimal, api.Errno) {
	exp := api.MaxExp
	for _, d := range l {
		if Check(d) != api.OK {
			return api.Decimal{}, api.ErrArg
		}
		exp = min(exp, d.Exp)
	}
	var sum []uint64
	neg := false
	for _, d := range l {
		next, turned := joined(sum, level(d, exp), neg != d.Neg)
		sum, neg = next, neg != turned
	}
	return told(neg, sum, exp)
}

// Mul tells the product.
func Mul(a, b api.Decimal) (api.Decimal, api.Errno) {
	if Check(a) != api.OK || Check(b) != api.OK {
		return api.Decimal{}, api.ErrArg
	}
	return told(a.Neg != b.Neg, product(level(a, a.Exp), level(b, b.Exp)), a.Exp+b.Exp)
}

// Multiple tells whether d is a whole number times by.
func Multiple(d, by api.Decimal) (bool, api.Errno) {
	if Check(d) != api.OK || !isAbove(by) {
		return false, api.ErrArg
	}
	exp := min(d.Exp, by.Exp)
	_, left := quotient(level(d, exp), level(by, exp))
	return len(left) == 0, api.OK
}

// Common tells the least number that is a whole number times a, and one times b.
func Common(a, b api.Decimal) (api.Decimal, api.Errno) {
	if !isAbove(a) || !isAbove(b) {
		return api.Decimal{}, api.ErrArg
	}
	exp := min(a.Exp, b.Exp)
	x, y := level(a, exp), level(b, exp)
	times, _ := quotient(x, divisor(x, y))
	return told(false, product(times, y), exp)
}

// level tells how many times 10 to a power, which is not above its own, a decimal is, its sign left
// out.
func level(d api.Decimal, exp int) []uint64 { return laid(d.Digits, d.Exp-exp) }

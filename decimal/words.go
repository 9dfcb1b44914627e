package decimal

import (
	"slices"
	"strconv"

	"lexicon/api"
)

// Whole numbers that are 0 or above it stand here as words to the base 10^9, the lowest one first,
// the last one not 0; so 0 has none.
const (
	base       = 1_000_000_000
	wordDigits = 9
)

// laid tells digits, with noughts behind them, as words.
func laid(digits string, behind int) []uint64 {
	n := make([]uint64, behind/wordDigits)
	digits += noughts(behind % wordDigits)
	for digits != "" {
		cut := max(0, len(digits)-wordDigits)
		word, _ := strconv.ParseUint(digits[cut:], 10, 64)
		n = append(n, word)
		digits = digits[:cut]
	}
	return cropped(n)
}

// told tells the decimal of words, times 10 to a power.
func told(neg bool, n []uint64, exp int) (api.Decimal, api.Errno) {
	if len(n) == 0 {
		return api.Decimal{}, api.OK
	}
	empty := noughtsBehind(n)
	digits := digitsOf(n)
	d := api.Decimal{Neg: neg, Digits: string(digits[:len(digits)-empty]), Exp: exp + empty}
	if Check(d) != api.OK {
		return api.Decimal{}, api.ErrRange
	}
	return d, api.OK
}

// noughtsBehind tells how many noughts the digits of a number above 0 have behind them.
func noughtsBehind(n []uint64) int {
	many := 0
count:
	for _, word := range n {
		for range wordDigits {
			if word%10 != 0 {
				break count
			}
			word /= 10
			many++
		}
	}
	return many
}

// digitsOf tells the digits of a number above 0.
func digitsOf(n []uint64) []byte {
	var b []byte
	for i, word := range slices.Backward(n) {
		text := strconv.FormatUint(word, 10)
		if i < len(n)-1 {
			b = append(b, noughts(wordDigits-len(text))...)
		}
		b = append(b, text...)
	}
	return b
}

// joined tells the sum of two numbers, or, if they are unlike, how far they are from each other,
// and whether the second one is the greater one then.
func joined(a, b []uint64, unlike bool) ([]uint64, bool) {
	var kept uint64 // for the next word: what one was too great by, or fell short of
	up := func(x, y uint64) uint64 {
		s := x + y + kept
		kept = s / base
		return s % base
	}
	down := func(x, y uint64) uint64 {
		s := base + x - y - kept
		kept = 1 - s/base
		return s % base
	}
	var count func(x, y uint64) uint64
	turned := false
	switch {
	case !unlike:
		count = up
	case less(a, b):
		a, b, turned = b, a, true
		fallthrough
	default:
		count = down
	}
	words := max(len(a), len(b)) + 1
	n := make([]uint64, 0, words)
	for i := range words {
		n = append(n, count(wordAt(a, i), wordAt(b, i)))
	}
	return cropped(n), turned
}

// product tells two numbers' product.
func product(a, b []uint64) []uint64 {
	n := make([]uint64, len(a)+len(b))
	for i, x := range a {
		var kept uint64
		for j, y := range b {
			kept += n[i+j] + x*y
			n[i+j] = kept % base
			kept /= base
		}
		n[i+len(b)] = kept
	}
	return cropped(n)
}

// quotient tells how many times a number above 0 goes into another one, and what is left of that.
func quotient(a, by []uint64) (n, left []uint64) {
	// Both grow alike, till the highest word of the one is half of the base at least: then what is
	// guessed by it is too much by 2 at most. How many times it goes does not change by that.
	grown := []uint64{base / (by[len(by)-1] + 1)}
	great, part := product(a, grown), product(by, grown)
	n = make([]uint64, len(great))
	var rest []uint64
	for i, word := range slices.Backward(great) {
		rest = cropped(append([]uint64{word}, rest...))
		n[i] = guess(rest, part)
		took := product(part, n[i:i+1])
		for less(rest, took) {
			n[i]--
			took, _ = joined(took, part, true)
		}
		rest, _ = joined(rest, took, true)
	}
	n = cropped(n)
	left, _ = joined(a, product(n, by), true)
	return n, left
}

// guess tells, by their highest words, about how many times a number goes into another one, that is
// less than base times as great.
func guess(a, by []uint64) uint64 {
	top := len(by) - 1
	return (wordAt(a, top+1)*base + wordAt(a, top)) / by[top]
}

// divisor tells the greatest number of which both are whole ones of times. Neither is 0.
func divisor(a, b []uint64) []uint64 {
	for len(b) > 0 {
		_, left := quotient(a, b)
		a, b = b, left
	}
	return a
}

// less tells whether a number is below another one.
func less(a, b []uint64) bool {
	if len(a) != len(b) {
		return len(a) < len(b)
	}
	for i, word := range slices.Backward(a) {
		if word != b[i] {
			return word < b[i]
		}
	}
	return false
}

// wordAt tells a word, 0 above the highest one.
func wordAt(n []uint64, i int) uint64 {
	if i < len(n) {
		return n[i]
	}
	return 0
}

// cropped leaves out the highest words that are 0.
func cropped(n []uint64) []uint64 {
	for len(n) > 0 && n[len(n)-1] == 0 {
		n = n[:len(n)-1]
	}
	return n
}

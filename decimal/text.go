package decimal

import (
	"strconv"
	"strings"

	"lexicon/api"
)

const (
	// Of a number whose place is from the one to the other one no power is written.
	minPlace, maxPlace = -5, 21

	// No digits that a text has room for bring a power beyond this one back to one that may be.
	maxPower = api.MaxExp + 2*api.MaxNumberText
)

// Parse reads a number's text.
func Parse(text string) (api.Decimal, api.Errno) {
	if len(text) > api.MaxNumberText {
		return api.Decimal{}, api.ErrLong
	}
	r := &reader{text: text}
	var digits []byte // all ahead of the e, but for a 0 with which they begin
	places, power, sign := 0, 0, 1
	neg := r.take("-")
	if r.take("0") {
		goto point
	}
	if !r.digit() {
		goto wrong
	}
ahead:
	digits = append(digits, r.next())
	if r.digit() {
		goto ahead
	}
point:
	if !r.take(".") {
		goto raised
	}
	if !r.digit() {
		goto wrong
	}
behind:
	digits = append(digits, r.next())
	places++
	if r.digit() {
		goto behind
	}
raised:
	if !r.take("eE") {
		goto end
	}
	if r.take("-") {
		sign = -1
	} else {
		r.take("+")
	}
	if !r.digit() {
		goto wrong
	}
raise:
	power = min(10*power+int(r.next()-'0'), maxPower)
	if r.digit() {
		goto raise
	}
end:
	if r.at == len(text) {
		return told(neg, laid(string(digits), 0), sign*power-places)
	}
wrong:
	return api.Decimal{}, api.ErrDecimal
}

// Text tells a decimal's text.
func Text(d api.Decimal) (string, api.Errno) {
	if Check(d) != api.OK {
		return "", api.ErrArg
	}
	if isZero(d) {
		return "0", api.OK
	}
	var b []byte
	if d.Neg {
		b = append(b, '-')
	}
	p := place(d)
	switch {
	case d.Exp >= 0 && p <= maxPlace:
		b = append(b, d.Digits+noughts(d.Exp)...)
	case p > 0 && p <= maxPlace:
		b = append(b, d.Digits[:p]+"."+d.Digits[p:]...)
	case p >= minPlace && p <= 0:
		b = append(b, "0."+noughts(-p)+d.Digits...)
	default:
		b = append(b, d.Digits[0])
		if len(d.Digits) > 1 {
			b = append(b, "."+d.Digits[1:]...)
		}
		b = append(b, "e"+strconv.Itoa(p-1)...)
	}
	return string(b), api.OK
}

// noughts tells the digit 0, so many times.
func noughts(n int) string { return strings.Repeat("0", n) }

// reader goes over a number's text.
type reader struct {
	text string
	at   int
}

// digit tells whether a digit is next.
func (r *reader) digit() bool { return r.at < len(r.text) && isDigit(r.text[r.at]) }

// next passes the digit that is next.
func (r *reader) next() byte {
	r.at++
	return r.text[r.at-1]
}

// take passes what is next, if it is any of these.
func (r *reader) take(these string) bool {
	found := r.at < len(r.text) && strings.IndexByte(these, r.text[r.at]) >= 0
	if found {
		r.at++
	}
	return found
}
